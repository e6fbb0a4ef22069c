/-
  Own text. Bins as lists of pieces, pure: find, put, drop, sweep, size; how pieces lie in cells.
-/
import Derived.Test.YtjngnnbondejaabDoorPrint
namespace Go.Proofs.YtjngnnbondejaabDoor
open Go.RowKit

/- A piece of a bin: its ID, how often it is used, its text. -/
/- An ID whose numbers are such of their types. -/
def WfID (x : Nat × Int) : Prop := x.1 < 4294967296 ∧ -9223372036854775808 ≤ x.2 ∧ x.2 ≤ 9223372036854775807
abbrev Hd := (Nat × Int) × Int × List UInt8
abbrev heldV (h : Hd) : Value := .agg #[.int .u32 (h.1.1 : Nat), .int .i64 h.1.2, .int .i64 h.2.1, .string ⟨h.2.2.toArray⟩]
def heldCells : List Hd → List Value
  | [] => []
  | h :: r => .int .u32 (h.1.1 : Nat) :: .int .i64 h.1.2 :: .int .i64 h.2.1 :: .string ⟨h.2.2.toArray⟩ :: heldCells r
theorem heldCells_append : ∀ (a b : List Hd), heldCells (a ++ b) = heldCells a ++ heldCells b
  | [], _ => rfl
  | x :: r, b => by rw [List.cons_append, heldCells, heldCells_append r b, heldCells]; rfl
theorem heldCells_length : ∀ (a : List Hd), (heldCells a).length = a.length * 4
  | [] => rfl
  | x :: r => by rw [heldCells, List.length_cons, List.length_cons, List.length_cons, List.length_cons, heldCells_length r, List.length_cons]; omega
theorem heldCells_at : ∀ (a : List Hd) (i : Nat) (h : i < a.length), (heldCells a)[i * 4]? = some (.int .u32 (a[i].1.1 : Nat)) ∧ (heldCells a)[i * 4 + 1]? = some (.int .i64 a[i].1.2) ∧ (heldCells a)[i * 4 + 2]? = some (.int .i64 a[i].2.1) ∧ (heldCells a)[i * 4 + 3]? = some (.string ⟨a[i].2.2.toArray⟩)
  | x :: r, 0, _ => ⟨rfl, rfl, rfl, rfl⟩
  | x :: r, i + 1, h => by
    have := heldCells_at r i (by simpa using h)
    rw [show (i + 1) * 4 = i * 4 + 1 + 1 + 1 + 1 by omega]
    exact this
theorem heldCells_one (l : List Hd) : ∀ u ∈ heldCells l, u.oneCell' = true := by
  induction l with
  | nil => simp [heldCells]
  | cons x r ih =>
    intro u hu
    simp only [heldCells, List.mem_cons] at hu
    rcases hu with rfl | rfl | rfl | rfl | hu
    · rfl
    · rfl
    · rfl
    · rfl
    · exact ih u hu

/- Where a piece is. -/
def hFind : List Hd → Nat × Int → Option Nat
  | [], _ => none
  | h :: r, x => if h.1 = x then some 0 else (hFind r x).map (· + 1)
def findI (l : List Hd) (x : Nat × Int) : Int := match hFind l x with | some k => (k : Int) | none => -1
theorem hFind_at : ∀ (l : List Hd) (x : Nat × Int) (k : Nat) (h : k < l.length), (∀ j (hj : j < l.length), j < k → l[j].1 ≠ x) → l[k].1 = x → hFind l x = some k
  | [], _, _, h, _, _ => by simp at h
  | y :: r, x, 0, _, _, he => by
    have he' : y.1 = x := he
    rw [hFind, if_pos he']
  | y :: r, x, k + 1, h, ha, he => by
    have h0 : y.1 ≠ x := ha 0 (by simp) (by omega)
    rw [hFind, if_neg h0, hFind_at r x k (by simpa using h) (fun j hj hk => by have := ha (j + 1) (by simpa using hj) (by omega); simpa using this) (by simpa using he)]
    rfl
theorem hFind_none : ∀ (l : List Hd) (x : Nat × Int), (∀ j (hj : j < l.length), l[j].1 ≠ x) → hFind l x = none
  | [], _, _ => rfl
  | y :: r, x, ha => by
    have h0 : y.1 ≠ x := ha 0 (by simp)
    rw [hFind, if_neg h0, hFind_none r x (fun j hj => by have := ha (j + 1) (by simpa using hj); simpa using this)]
    rfl
theorem hFind_some : ∀ {l : List Hd} {x : Nat × Int} {k : Nat}, hFind l x = some k → ∃ h : k < l.length, l[k].1 = x
  | [], _, _, h => by cases h
  | y :: r, x, k, h => by
    rw [hFind] at h
    split at h
    · rename_i he
      cases h
      exact ⟨by simp, he⟩
    · cases hr : hFind r x with
      | none => rw [hr] at h; cases h
      | some j =>
        rw [hr] at h
        cases h
        obtain ⟨hj, he⟩ := hFind_some hr
        exact ⟨by simpa using hj, by simpa using he⟩
theorem hFind_not : ∀ {l : List Hd} {x : Nat × Int}, hFind l x = none → ∀ h ∈ l, h.1 ≠ x
  | [], _, _, _, hm => by cases hm
  | y :: r, x, h, z, hm => by
    rw [hFind] at h
    split at h
    · cases h
    · rename_i hne
      cases hr : hFind r x with
      | some j => rw [hr] at h; cases h
      | none =>
        rcases List.mem_cons.1 hm with rfl | hm
        · exact hne
        · exact hFind_not hr z hm
/- Where it comes by its ID. -/
def hPlace : List Hd → Nat × Int → Nat
  | [], _ => 0
  | h :: r, x => if lessB h.1 x = true then hPlace r x + 1 else 0
theorem hPlace_le : ∀ (l : List Hd) (x : Nat × Int), hPlace l x ≤ l.length
  | [], _ => Nat.le_refl _
  | h :: r, x => by
    rw [hPlace]
    split
    · have := hPlace_le r x; simp; omega
    · simp
theorem hPlace_at : ∀ (l : List Hd) (x : Nat × Int) (k : Nat), k ≤ l.length → (∀ j (hj : j < l.length), j < k → lessB l[j].1 x = true) → (∀ h : k < l.length, lessB l[k].1 x = false) → hPlace l x = k
  | [], _, k, h, _, _ => by simp at h; simp [hPlace, h]
  | y :: r, x, 0, _, _, he => by
    have he' : lessB y.1 x = false := he (by simp)
    rw [hPlace, he']
    rfl
  | y :: r, x, k + 1, h, ha, he => by
    have h0 : lessB y.1 x = true := ha 0 (by simp) (by omega)
    rw [hPlace, if_pos h0, hPlace_at r x k (by simpa using h) (fun j hj hk => by have := ha (j + 1) (by simpa using hj) (by omega); simpa using this) (fun h' => by have := he (by simpa using h'); simpa using this)]
def hIns (l : List Hd) (h : Hd) : List Hd := l.take (hPlace l h.1) ++ h :: l.drop (hPlace l h.1)
def hUse (d : Int) (h : Hd) : Hd := (h.1, h.2.1 + d, h.2.2)
def hPut (l : List Hd) (s : List UInt8) : ((Nat × Int) × Bool × Int) × List Hd :=
  if s.length < 1 ∨ 64 < s.length then (((0, 0), false, 2), l) else
    match hFind l (idOfL s) with
    | some k => if (l[k]?.map (·.2.2)) = some s then ((idOfL s, false, 0), l.modify k (hUse 1)) else (((0, 0), false, 10), l)
    | none => if 250 ≤ l.length then (((0, 0), false, 7), l) else ((idOfL s, true, 0), hIns l (idOfL s, 1, s))
def hDrop (l : List Hd) (x : Nat × Int) : Int × List Hd :=
  match hFind l x with
  | some k => if (l[k]?.map (·.2.1)) = some 0 then (11, l) else (0, l.modify k (hUse (-1)))
  | none => (5, l)
def unused (h : Hd) : Bool := decide (h.2.1 = 0)
def hSize (l : List Hd) : Int := (l.map (·.1.2)).sum
def hSweep (l : List Hd) : Int × List Hd := (hSize (l.filter unused), l.filter (fun h => !unused h))
theorem hSize_snoc (l : List Hd) (k : Nat) (h : k < l.length) : hSize (l.take (k + 1)) = hSize (l.take k) + l[k].1.2 := by
  rw [List.take_succ_eq_append_getElem h, hSize, List.map_append, List.sum_append]
  simp [hSize]
theorem hSize_bound : ∀ (l : List Hd) (b : Int), 0 ≤ b → (∀ h ∈ l, 0 ≤ h.1.2 ∧ h.1.2 ≤ b) → 0 ≤ hSize l ∧ hSize l ≤ l.length * b
  | [], b, _, _ => by simp [hSize]
  | x :: r, b, hb, ha => by
    have h1 := hSize_bound r b hb (fun h hm => ha h (List.mem_cons_of_mem _ hm))
    have h2 := ha x (List.mem_cons_self ..)
    have e : hSize (x :: r) = x.1.2 + hSize r := by simp [hSize]
    rw [e, List.length_cons]
    have e2 : ((r.length + 1 : Nat) : Int) * b = r.length * b + b := by push_cast; rw [Int.add_mul, Int.one_mul]
    omega
end Go.Proofs.YtjngnnbondejaabDoor
