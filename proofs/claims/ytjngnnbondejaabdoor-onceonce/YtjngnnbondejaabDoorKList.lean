/-
  Own text. Lists of keys and what they stand for, pure: where a key is, where a new one comes in an order.
-/
import Derived.Lib.ItoaNum
namespace Go.Proofs.YtjngnnbondejaabDoor

/- Where a key is in a list. -/
def kFind {κ β : Type} [DecidableEq κ] : List (κ × β) → κ → Option Nat
  | [], _ => none
  | h :: r, x => if h.1 = x then some 0 else (kFind r x).map (· + 1)
def kFindI {κ β : Type} [DecidableEq κ] (l : List (κ × β)) (x : κ) : Int := match kFind l x with | some k => (k : Int) | none => -1
theorem kFind_at {κ β : Type} [DecidableEq κ] : ∀ (l : List (κ × β)) (x : κ) (k : Nat) (h : k < l.length), (∀ j (hj : j < l.length), j < k → l[j].1 ≠ x) → l[k].1 = x → kFind l x = some k
  | [], _, _, h, _, _ => by simp at h
  | y :: r, x, 0, _, _, he => by
    have he' : y.1 = x := he
    rw [kFind, if_pos he']
  | y :: r, x, k + 1, h, ha, he => by
    have h0 : y.1 ≠ x := ha 0 (by simp) (by omega)
    rw [kFind, if_neg h0, kFind_at r x k (by simpa using h) (fun j hj hk => by have := ha (j + 1) (by simpa using hj) (by omega); simpa using this) (by simpa using he)]
    rfl
theorem kFind_none {κ β : Type} [DecidableEq κ] : ∀ (l : List (κ × β)) (x : κ), (∀ j (hj : j < l.length), l[j].1 ≠ x) → kFind l x = none
  | [], _, _ => rfl
  | y :: r, x, ha => by
    have h0 : y.1 ≠ x := ha 0 (by simp)
    rw [kFind, if_neg h0, kFind_none r x (fun j hj => by have := ha (j + 1) (by simpa using hj); simpa using this)]
    rfl
theorem kFind_some {κ β : Type} [DecidableEq κ] : ∀ {l : List (κ × β)} {x : κ} {k : Nat}, kFind l x = some k → ∃ h : k < l.length, l[k].1 = x
  | [], _, _, h => by cases h
  | y :: r, x, k, h => by
    rw [kFind] at h
    split at h
    · rename_i he
      cases h
      exact ⟨by simp, he⟩
    · cases hr : kFind r x with
      | none => rw [hr] at h; cases h
      | some j =>
        rw [hr] at h
        cases h
        obtain ⟨hj, he⟩ := kFind_some hr
        exact ⟨by simpa using hj, by simpa using he⟩
theorem kFind_not {κ β : Type} [DecidableEq κ] {l : List (κ × β)} {x : κ} (h : kFind l x = none) : ∀ y ∈ l, y.1 ≠ x := by
  induction l with
  | nil => intro y hy; simp at hy
  | cons z r ih =>
    rw [kFind] at h
    split at h
    · cases h
    · rename_i hz
      have hr : kFind r x = none := by
        cases hk : kFind r x with
        | none => rfl
        | some k => rw [hk] at h; cases h
      intro y hy
      rcases List.mem_cons.1 hy with rfl | hy
      · exact hz
      · exact ih hr y hy
def kPlace {κ β : Type} (lt : κ → κ → Bool) : List (κ × β) → κ → Nat
  | [], _ => 0
  | h :: r, x => if lt h.1 x = true then kPlace lt r x + 1 else 0
def kIns {κ β : Type} (lt : κ → κ → Bool) (l : List (κ × β)) (h : κ × β) : List (κ × β) := l.take (kPlace lt l h.1) ++ h :: l.drop (kPlace lt l h.1)
theorem kPlace_le {κ β : Type} (lt : κ → κ → Bool) : ∀ (l : List (κ × β)) (x : κ), kPlace lt l x ≤ l.length
  | [], _ => Nat.le_refl _
  | h :: r, x => by
    rw [kPlace]
    split
    · have := kPlace_le lt r x; simp; omega
    · simp
theorem kPlace_at {κ β : Type} (lt : κ → κ → Bool) : ∀ (l : List (κ × β)) (x : κ) (k : Nat), k ≤ l.length → (∀ j (hj : j < l.length), j < k → lt l[j].1 x = true) → (∀ h : k < l.length, lt l[k].1 x = false) → kPlace lt l x = k
  | [], _, k, h, _, _ => by simp at h; simp [kPlace, h]
  | y :: r, x, 0, _, _, he => by
    have he' : lt y.1 x = false := he (by simp)
    rw [kPlace, he']
    rfl
  | y :: r, x, k + 1, h, ha, he => by
    have h0 : lt y.1 x = true := ha 0 (by simp) (by omega)
    rw [kPlace, if_pos h0, kPlace_at lt r x k (by simpa using h) (fun j hj hk => by have := ha (j + 1) (by simpa using hj) (by omega); simpa using this) (fun h' => by have := he (by simpa using h'); simpa using this)]
theorem kIns_nil {κ β : Type} (lt : κ → κ → Bool) (h : κ × β) : kIns lt [] h = [h] := rfl
theorem kIns_lt {κ β : Type} (lt : κ → κ → Bool) (y : κ × β) (r : List (κ × β)) (h : κ × β) (e : lt y.1 h.1 = true) : kIns lt (y :: r) h = y :: kIns lt r h := by
  unfold kIns
  rw [kPlace, if_pos e]
  rfl
theorem kIns_ge {κ β : Type} (lt : κ → κ → Bool) (y : κ × β) (r : List (κ × β)) (h : κ × β) (e : lt y.1 h.1 = false) : kIns lt (y :: r) h = h :: y :: r := by
  unfold kIns
  rw [kPlace, e]
  rfl
theorem kIns_perm {κ β : Type} (lt : κ → κ → Bool) (l : List (κ × β)) (h : κ × β) : (kIns lt l h).Perm (h :: l) := by
  unfold kIns
  refine List.perm_middle.trans ?_
  rw [List.take_append_drop]
/- An order of keys that is whole. -/
structure KOrd {κ : Type} (lt : κ → κ → Bool) : Prop where
  trans : ∀ a b c, lt a b = true → lt b c = true → lt a c = true
  conn : ∀ a b, a ≠ b → lt a b = false → lt b a = true
  ne : ∀ a b, lt a b = true → a ≠ b
theorem kIns_sorted {κ β : Type} {lt : κ → κ → Bool} (O : KOrd lt) (h : κ × β) : ∀ (l : List (κ × β)), l.Pairwise (fun a b => lt a.1 b.1 = true) → (∀ y ∈ l, y.1 ≠ h.1) → (kIns lt l h).Pairwise (fun a b => lt a.1 b.1 = true)
  | [], _, _ => by rw [kIns_nil]; exact List.pairwise_singleton _ _
  | y :: r, hp, hn => by
    obtain ⟨h1, h2⟩ := List.pairwise_cons.1 hp
    cases e : lt y.1 h.1 with
    | true =>
      rw [kIns_lt lt y r h e]
      refine List.pairwise_cons.2 ⟨fun z hz => ?_, kIns_sorted O h r h2 (fun z hz => hn z (List.mem_cons_of_mem _ hz))⟩
      rcases List.mem_cons.1 ((kIns_perm lt r h).mem_iff.1 hz) with rfl | hz
      · exact e
      · exact h1 z hz
    | false =>
      rw [kIns_ge lt y r h e]
      have hy := O.conn _ _ (hn y (List.mem_cons_self ..)) e
      refine List.pairwise_cons.2 ⟨fun z hz => ?_, hp⟩
      rcases List.mem_cons.1 hz with rfl | hz
      · exact hy
      · exact O.trans _ _ _ hy (h1 z hz)
theorem kord_ne {κ β : Type} {lt : κ → κ → Bool} (O : KOrd lt) {l : List (κ × β)} (h : l.Pairwise (fun a b => lt a.1 b.1 = true)) : l.Pairwise (fun a b => a.1 ≠ b.1) := h.imp fun {_ _} e => O.ne _ _ e
abbrev ltN (a b : List UInt8) : Bool := decide (a < b)
theorem ord_N : KOrd ltN where
  trans a b c h1 h2 := by
    simp only [ltN, decide_eq_true_eq] at *
    exact List.lt_trans h1 h2
  conn a b hn h := by
    simp only [ltN, decide_eq_true_eq, decide_eq_false_iff_not] at *
    have h1 : b ≤ a := h
    exact (List.le_iff_lt_or_eq.1 h1).resolve_right (fun e => hn e.symm)
  ne a b h e := by
    subst e
    simp only [ltN, decide_eq_true_eq] at h
    exact List.lt_irrefl a h
end Go.Proofs.YtjngnnbondejaabDoor
