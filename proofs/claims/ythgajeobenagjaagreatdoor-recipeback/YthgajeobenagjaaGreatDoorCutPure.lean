/-
  Own text. Pure: where a text's pieces end (the document's chapter 2): the window of the last eight bytes, the first piece, all pieces, the ends.
-/
namespace Go.Proofs.YthgajeobenagjaaGreatDoor

def zs8 : List UInt8 := List.replicate 8 0
/- The window behind n bytes: the last eight, zeros ahead of the first. -/
def win (l : List UInt8) (n : Nat) : List UInt8 := (zs8 ++ l.take n).drop n
def sumB (xs : List UInt8) : Nat := (xs.map UInt8.toNat).sum
def endsAt (l : List UInt8) (n : Nat) : Bool := n == 64 || (decide (16 ≤ n) && sumB (win l n) % 16 == 15)
def scan (l : List UInt8) : Nat → Nat → Nat
  | n, 0 => n
  | n, k + 1 => if endsAt l (n + 1) = true then n + 1 else scan l (n + 1) k
def first (l : List UInt8) : Nat := scan l 0 l.length
def piecesF : Nat → List UInt8 → List (List UInt8)
  | 0, _ => []
  | k + 1, l => match l with
    | [] => []
    | _ :: _ => l.take (first l) :: piecesF k (l.drop (first l))
def pieces (l : List UInt8) : List (List UInt8) := piecesF l.length l
/- The ends of pieces, the first of which begins at n. -/
def endsFrom (n : Nat) : List (List UInt8) → List Nat
  | [] => []
  | p :: r => (n + p.length) :: endsFrom (n + p.length) r
def cuts (l : List UInt8) : List Nat := endsFrom 0 (pieces l)

theorem win_length (l : List UInt8) (n : Nat) (h : n ≤ l.length) : (win l n).length = 8 := by
  simp [win, zs8, Nat.min_eq_left h]
  omega
theorem win_zero (l : List UInt8) : win l 0 = zs8 := by simp [win, zs8]
theorem win_succ (l : List UInt8) (n : Nat) (h : n < l.length) : win l (n + 1) = (win l n).drop 1 ++ [l[n]] := by
  have e : l.take (n + 1) = l.take n ++ [l[n]] := by rw [List.take_succ_eq_append_getElem h]
  unfold win
  rw [e, ← List.append_assoc, List.drop_append_of_le_length (by simp [zs8]; omega), List.drop_drop]
theorem win_late (l : List UInt8) (n : Nat) (h8 : 8 ≤ n) : win l n = (l.drop (n - 8)).take 8 := by
  have e := List.drop_append (l₁ := zs8) (l₂ := l.take n) (i := n)
  unfold win
  rw [e, List.drop_eq_nil_of_le (by simp [zs8]; omega), List.nil_append, List.drop_take]
  simp [zs8]
  congr 1
  omega
theorem win_take (l : List UInt8) (n m : Nat) (h : n ≤ m) : win (l.take m) n = win l n := by
  unfold win
  rw [List.take_take, Nat.min_eq_left h]
theorem endsAt_take (l : List UInt8) (n m : Nat) (h : n ≤ m) : endsAt (l.take m) n = endsAt l n := by
  unfold endsAt
  rw [win_take l n m h]

structure IsFirst (l : List UInt8) (n : Nat) : Prop where
  pos : 0 < n
  le : n ≤ l.length
  no : ∀ j, 0 < j → j < n → endsAt l j = false
  yes : endsAt l n = true ∨ n = l.length

theorem scan_is (l : List UInt8) : ∀ (k n : Nat), n + k = l.length → 0 < l.length → (∀ j, 0 < j → j ≤ n → endsAt l j = false) → (k = 0 → False) → IsFirst l (scan l n k)
  | 0, n, _, _, _, h0 => (h0 rfl).elim
  | k + 1, n, hk, hl, hno, _ => by
    rw [scan]
    by_cases h : endsAt l (n + 1) = true
    · rw [if_pos h]
      exact ⟨by omega, by omega, fun j h1 h2 => hno j h1 (by omega), .inl h⟩
    · rw [if_neg h]
      have h' : endsAt l (n + 1) = false := by simpa using h
      have hno' : ∀ j, 0 < j → j ≤ n + 1 → endsAt l j = false := fun j h1 h2 => by
        by_cases e : j = n + 1
        · rw [e]; exact h'
        · exact hno j h1 (by omega)
      cases k with
      | zero => exact ⟨by simp [scan], by simp [scan]; omega, fun j h1 h2 => hno' j h1 (by simp [scan] at h2; omega), .inr (by simp [scan]; omega)⟩
      | succ k => exact scan_is l (k + 1) (n + 1) (by omega) hl hno' (by omega)
theorem first_is (l : List UInt8) (h : l ≠ []) : IsFirst l (first l) := by
  have hl : 0 < l.length := List.length_pos_iff.2 h
  exact scan_is l l.length 0 (by omega) hl (fun j h1 h2 => by omega) (by omega)
theorem IsFirst.uniq {l : List UInt8} {n m : Nat} (h : IsFirst l n) (k : IsFirst l m) : n = m := by
  rcases Nat.lt_trichotomy n m with hlt | e | hlt
  · exfalso
    have := k.no n h.pos hlt
    rcases h.yes with y | y
    · rw [y] at this; cases this
    · have := k.le; omega
  · exact e
  · exfalso
    have := h.no m k.pos hlt
    rcases k.yes with y | y
    · rw [y] at this; cases this
    · have := h.le; omega
theorem IsFirst.eq {l : List UInt8} {n : Nat} (h : IsFirst l n) : first l = n := by
  refine (first_is l ?_).uniq h
  intro e
  have := h.le; have := h.pos; rw [e] at *; simp at *; omega
theorem first_nil : first [] = 0 := rfl
theorem first_le (l : List UInt8) : first l ≤ l.length := by
  by_cases h : l = []
  · subst h; exact Nat.le_refl _
  · exact (first_is l h).le
theorem first_pos (l : List UInt8) (h : l ≠ []) : 0 < first l := (first_is l h).pos

theorem piecesF_more : ∀ (k m : Nat) (l : List UInt8), l.length ≤ k → l.length ≤ m → piecesF k l = piecesF m l
  | 0, m, l, hk, _ => by
    obtain rfl : l = [] := List.eq_nil_of_length_eq_zero (by omega)
    cases m <;> rfl
  | k + 1, 0, l, _, hm => by
    obtain rfl : l = [] := List.eq_nil_of_length_eq_zero (by omega)
    rfl
  | k + 1, m + 1, [], _, _ => rfl
  | k + 1, m + 1, x :: l, hk, hm => by
    have hp := first_pos (x :: l) (by simp)
    have hd : ((x :: l).drop (first (x :: l))).length ≤ l.length := by simp; omega
    simp only [piecesF]
    rw [piecesF_more k m _ (by simp at hk; omega) (by simp at hm; omega)]
theorem pieces_nil : pieces [] = [] := rfl
theorem pieces_ne (l : List UInt8) (h : l ≠ []) : pieces l = l.take (first l) :: pieces (l.drop (first l)) := by
  cases l with
  | nil => exact (h rfl).elim
  | cons x l =>
    have hp := first_pos (x :: l) (by simp)
    show _ :: piecesF l.length _ = _
    rw [piecesF_more l.length ((x :: l).drop (first (x :: l))).length _ (by simp; omega) (Nat.le_refl _)]
    rfl
theorem pieces_rec {P : List UInt8 → Prop} (h0 : P []) (h1 : ∀ l, l ≠ [] → P (l.drop (first l)) → P l) : ∀ (l : List UInt8), P l := by
  have : ∀ (k : Nat) (l : List UInt8), l.length ≤ k → P l := by
    intro k
    induction k with
    | zero => intro l hl; obtain rfl : l = [] := List.eq_nil_of_length_eq_zero (by omega); exact h0
    | succ k ih =>
      intro l hl
      by_cases e : l = []
      · subst e; exact h0
      · have hp := first_pos l e
        exact h1 l e (ih _ (by simp; omega))
  exact fun l => this l.length l (Nat.le_refl _)

theorem pieces_flatten : ∀ (l : List UInt8), (pieces l).flatten = l := by
  refine pieces_rec (by rw [pieces_nil]; rfl) ?_
  intro l hl ih
  rw [pieces_ne l hl, List.flatten_cons, ih, List.take_append_drop]
theorem pieces_eq_nil (l : List UInt8) : pieces l = [] ↔ l = [] := by
  constructor
  · intro h
    by_cases e : l = []
    · exact e
    · rw [pieces_ne l e] at h; cases h
  · rintro rfl; rfl
theorem pieces_len_le : ∀ (l : List UInt8), (pieces l).length ≤ l.length := by
  refine pieces_rec (by rw [pieces_nil]; exact Nat.le_refl _) ?_
  intro l hl ih
  have hp := first_pos l hl
  have := first_le l
  rw [pieces_ne l hl, List.length_cons]
  simp at ih
  omega
theorem first_le64 (l : List UInt8) : first l ≤ 64 := by
  by_cases e : l = []
  · subst e; decide
  · have h := first_is l e
    by_cases h64 : first l ≤ 64
    · exact h64
    · have := h.no 64 (by omega) (by omega)
      simp [endsAt] at this
theorem first_ge16 (l : List UInt8) (h : first l < l.length) : 16 ≤ first l := by
  have e : l ≠ [] := by rintro rfl; simp at h
  rcases (first_is l e).yes with y | y
  · unfold endsAt at y
    simp at y
    omega
  · omega
theorem drop_ne_nil {l : List UInt8} {n : Nat} (h : l.drop n ≠ []) : n < l.length := by
  by_cases e : n < l.length
  · exact e
  · exact (h (List.drop_eq_nil_of_le (by omega))).elim
/- A piece: not empty, at most 64; at least 16 where another one follows. -/
theorem pieces_at : ∀ (l : List UInt8) (i : Nat) (h : i < (pieces l).length), 0 < ((pieces l)[i]).length ∧ ((pieces l)[i]).length ≤ 64 ∧ (i + 1 < (pieces l).length → 16 ≤ ((pieces l)[i]).length) := by
  refine pieces_rec (by intro i h; rw [pieces_nil] at h; simp at h) ?_
  intro l hl ih i h
  have e := pieces_ne l hl
  have hf := first_le l
  cases i with
  | zero =>
    have e0 : (pieces l)[0] = l.take (first l) := by simp [e]
    have e1 : (pieces l).length = (pieces (l.drop (first l))).length + 1 := by rw [e, List.length_cons]
    rw [e0, List.length_take, Nat.min_eq_left hf]
    refine ⟨first_pos l hl, first_le64 l, fun h1 => first_ge16 l (drop_ne_nil (fun e2 => ?_))⟩
    rw [e1, e2, pieces_nil] at h1
    simp at h1
  | succ i =>
    have h' : i < (pieces (l.drop (first l))).length := by rw [e, List.length_cons] at h; omega
    have e0 : (pieces l)[i + 1] = (pieces (l.drop (first l)))[i] := by simp [e]
    have e1 : (pieces l).length = (pieces (l.drop (first l))).length + 1 := by rw [e, List.length_cons]
    rw [e0, e1]
    have := ih i h'
    exact ⟨this.1, this.2.1, fun h1 => this.2.2 (by omega)⟩

/- What is behind a cut is cut as it is alone; what is ahead of it too. -/
def upto (ps : List (List UInt8)) (k : Nat) : Nat := (ps.take k).flatten.length
theorem pieces_behind : ∀ (l : List UInt8) (k : Nat), k ≤ (pieces l).length → pieces (l.drop (upto (pieces l) k)) = (pieces l).drop k := by
  refine pieces_rec (by intro k _; simp [pieces_nil, upto]) ?_
  intro l hl ih k hk
  have e := pieces_ne l hl
  have hf := first_le l
  cases k with
  | zero => simp [upto]
  | succ k =>
    have hk' : k ≤ (pieces (l.drop (first l))).length := by rw [e, List.length_cons] at hk; omega
    have e1 : upto (pieces l) (k + 1) = first l + upto (pieces (l.drop (first l))) k := by
      rw [upto, e, List.take_succ_cons, List.flatten_cons, List.length_append, List.length_take, Nat.min_eq_left hf]; rfl
    rw [e1, ← List.drop_drop, ih k hk', e, List.drop_succ_cons]
theorem first_take (l : List UInt8) (m : Nat) (hl : l ≠ []) (h : first l ≤ m) : first (l.take m) = first l := by
  have hi := first_is l hl
  have hp := hi.pos; have hle := hi.le
  apply IsFirst.eq
  refine ⟨hi.pos, by rw [List.length_take]; omega, fun j h1 h2 => by rw [endsAt_take l j m (by omega)]; exact hi.no j h1 h2, ?_⟩
  rcases hi.yes with y | y
  · left; rw [endsAt_take l _ m h]; exact y
  · right; rw [List.length_take]; omega
theorem pieces_ahead : ∀ (l : List UInt8) (k : Nat), k ≤ (pieces l).length → pieces (l.take (upto (pieces l) k)) = (pieces l).take k := by
  refine pieces_rec (by intro k _; simp [pieces_nil, upto]) ?_
  intro l hl ih k hk
  have e := pieces_ne l hl
  have hf := first_le l
  cases k with
  | zero => simp [upto, pieces_nil]
  | succ k =>
    have hk' : k ≤ (pieces (l.drop (first l))).length := by rw [e, List.length_cons] at hk; omega
    have e1 : upto (pieces l) (k + 1) = first l + upto (pieces (l.drop (first l))) k := by
      rw [upto, e, List.take_succ_cons, List.flatten_cons, List.length_append, List.length_take, Nat.min_eq_left hf]; rfl
    have hp := first_pos l hl
    have hne : l.take (upto (pieces l) (k + 1)) ≠ [] := by
      intro e2
      have := congrArg List.length e2
      rw [List.length_take, List.length_nil] at this
      omega
    rw [pieces_ne _ hne, first_take l _ hl (by omega), List.take_take, Nat.min_eq_left (by omega), List.drop_take, e1, Nat.add_sub_cancel_left, ih k hk', e, List.take_succ_cons]

theorem endsFrom_length : ∀ (ps : List (List UInt8)) (n : Nat), (endsFrom n ps).length = ps.length
  | [], _ => rfl
  | p :: r, n => by rw [endsFrom, List.length_cons, endsFrom_length r, List.length_cons]
theorem endsFrom_snoc : ∀ (ps : List (List UInt8)) (n : Nat) (p : List UInt8), endsFrom n (ps ++ [p]) = endsFrom n ps ++ [n + ps.flatten.length + p.length]
  | [], n, p => by simp [endsFrom]
  | q :: r, n, p => by
    rw [List.cons_append, endsFrom, endsFrom_snoc r, endsFrom, List.cons_append, List.flatten_cons, List.length_append]
    simp only [Nat.add_assoc]
theorem endsFrom_at : ∀ (ps : List (List UInt8)) (n i : Nat) (h : i < (endsFrom n ps).length), (endsFrom n ps)[i] = n + upto ps (i + 1)
  | [], _, _, h => by simp [endsFrom] at h
  | p :: r, n, 0, _ => by simp [endsFrom, upto]
  | p :: r, n, i + 1, h => by
    have h' : i < (endsFrom (n + p.length) r).length := by rw [endsFrom, List.length_cons] at h; omega
    have := endsFrom_at r (n + p.length) i h'
    simp only [endsFrom, List.getElem_cons_succ]
    rw [this, upto, upto, List.take_succ_cons, List.flatten_cons, List.length_append, Nat.add_assoc]
theorem cuts_length (l : List UInt8) : (cuts l).length = (pieces l).length := endsFrom_length _ _
theorem cuts_at (l : List UInt8) (i : Nat) (h : i < (cuts l).length) : (cuts l)[i] = upto (pieces l) (i + 1) := by
  have := endsFrom_at (pieces l) 0 i h
  rw [Nat.zero_add] at this
  exact this
theorem upto_le (l : List UInt8) (k : Nat) : upto (pieces l) k ≤ l.length := by
  have h1 := congrArg List.length (congrArg List.flatten (List.take_append_drop k (pieces l)))
  rw [List.flatten_append, List.length_append, pieces_flatten] at h1
  unfold upto
  omega
end Go.Proofs.YthgajeobenagjaaGreatDoor
