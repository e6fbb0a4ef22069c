/-
  Own text. Reading pieces, pure: the first piece of a text (hFirst), all of them with their faults (hReads).
-/
import Derived.Test.YtmjdgakokldliaaGreatDoorHsText
import Derived.Test.YtmjdgakokldliaaGreatDoorReadID
import Derived.Test.YtmjdgakokldliaaGreatDoorBinHelds
namespace Go.Proofs.YtmjdgakokldliaaGreatDoor
open Go.RowKit

theorem index_miss (s : List UInt8) (c : UInt8) (h : c ∉ s) : Lib.index s [c] = -1 := by
  induction s with
  | nil => rfl
  | cons x r ih =>
    have hx : c ≠ x := fun e => h (by rw [e]; exact List.mem_cons_self ..)
    have h1 : ([c].isPrefixOf (x :: r)) = false := by simp [List.isPrefixOf, hx]
    rw [Lib.index, ih (fun e => h (List.mem_cons_of_mem _ e)), h1]
    rfl
theorem cut_miss (s : List UInt8) (c : UInt8) (h : c ∉ s) : Lib.cut s [c] = (s, [], false) := by
  unfold Lib.cut
  rw [index_miss s c h, if_neg (by decide)]
theorem idRead_lt {t : List UInt8} {x : Nat × Nat} (h : idRead t = some x) : x.1 < 4294967296 := by
  unfold idRead at h
  split at h
  · cases h
  · rename_i hn
    split at h
    · rename_i n m hu _
      cases h
      have hl := unhex_lt _ _ _ hu
      have h8 : (t.take 8).length = 8 := by rw [List.length_take]; omega
      rw [h8] at hl
      simpa using hl
    · cases h
/- A line's head and what is behind the line. -/
def hLine (a r : List UInt8) : Option (Hd × List UInt8) :=
  match idRead (Lib.cut a [32]).1, numOf (Lib.cut a [32]).2.1 6 with
  | some x, some u => if r[x.2]? = some 10 then some (((x.1, (x.2 : Int)), (u : Int), r.take x.2), r.drop (x.2 + 1)) else none
  | _, _ => none
def hFirst (s : List UInt8) : Option (Hd × List UInt8) := hLine (Lib.cut s [10]).1 (Lib.cut s [10]).2.1
theorem hLine_none (a : List UInt8) : hLine a [] = none := by
  unfold hLine
  split
  · simp
  · rfl
theorem hFirst_miss (s : List UInt8) (h : (10 : UInt8) ∉ s) : hFirst s = none := by
  unfold hFirst
  rw [cut_miss s 10 h]
  exact hLine_none _
theorem hFirst_line (a r : List UInt8) (h : (10 : UInt8) ∉ a) : hFirst (a ++ 10 :: r) = hLine a r := by
  unfold hFirst
  rw [cut_one a r 10 h]
theorem numOf_no {l : List UInt8} {m n : Nat} (h : numOf l m = some n) : (32 : UInt8) ∉ l ∧ l ≠ [] := by
  unfold numOf at h
  split at h
  · cases h
  · rename_i hn
    refine ⟨fun hm => (undec_ok _ _ _ h _ hm).2 rfl, fun e => hn (.inl (by rw [e]; decide))⟩
theorem hLine_two (a x y : List UInt8) (h : cutBy 32 a = [x, y]) : Lib.cut a [32] = (x, y, true) := by
  by_cases hm : (32 : UInt8) ∈ a
  · obtain ⟨p, q, rfl, hp⟩ := List.eq_append_cons_of_mem hm
    rw [cutBy_split 32 p q hp] at h
    have e := List.cons.inj h
    have hq : (32 : UInt8) ∉ q := fun hq => by
      obtain ⟨p', q', rfl, hp'⟩ := List.eq_append_cons_of_mem hq
      rw [cutBy_split 32 p' q' hp'] at e
      have := (List.cons.inj e.2).2
      have hpos := cutBy_pos 32 q'
      rw [this] at hpos
      simp at hpos
    rw [cutBy_noc 32 q hq] at e
    rw [cut_one p q 32 hp, e.1, (List.cons.inj e.2).1]
  · rw [cutBy_noc 32 a hm] at h
    simp at h
theorem hLine_words (a r : List UInt8) (h : (cutBy 32 a).length ≠ 2) : hLine a r = none := by
  have key : numOf (Lib.cut a [32]).2.1 6 = none := by
    cases hn : numOf (Lib.cut a [32]).2.1 6 with
    | none => rfl
    | some n =>
      exfalso
      obtain ⟨h1, h2⟩ := numOf_no hn
      by_cases hm : (32 : UInt8) ∈ a
      · obtain ⟨p, q, rfl, hp⟩ := List.eq_append_cons_of_mem hm
        rw [cut_one p q 32 hp] at h1
        rw [cutBy_split 32 p q hp, cutBy_noc 32 q h1] at h
        simp at h
      · rw [cut_miss a 32 hm] at h2
        exact h2 rfl
  unfold hLine
  rw [key]
  split
  · rename_i e1 e2
    cases e2
  · rfl
theorem hLine_less {a r : List UInt8} {x : Hd × List UInt8} (h : hLine a r = some x) : x.2.length < r.length := by
  unfold hLine at h
  split at h
  · split at h
    · rename_i y u _ _ hr
      cases h
      obtain ⟨hlt, _⟩ := List.getElem?_eq_some_iff.1 hr
      simp only [List.length_drop]
      omega
    · cases h
  · cases h
theorem hFirst_less {s : List UInt8} {x : Hd × List UInt8} (h : hFirst s = some x) : x.2.length < s.length := by
  by_cases hm : (10 : UInt8) ∈ s
  · obtain ⟨p, q, rfl, hp⟩ := List.eq_append_cons_of_mem hm
    rw [hFirst_line p q hp] at h
    have := hLine_less h
    simp
    omega
  · rw [hFirst_miss s hm] at h
    cases h
theorem hFirst_held {s : List UInt8} {x : Hd × List UInt8} (h : hFirst s = some x) : x.1.1.1 < 4294967296 ∧ x.1.1.2 = (x.1.2.2.length : Int) ∧ 0 ≤ x.1.2.1 ∧ x.1.2.2.length ≤ s.length := by
  by_cases hm : (10 : UInt8) ∈ s
  · obtain ⟨p, q, rfl, hp⟩ := List.eq_append_cons_of_mem hm
    rw [hFirst_line p q hp] at h
    unfold hLine at h
    split at h
    · split at h
      · rename_i y u hy _ hr
        cases h
        obtain ⟨hlt, _⟩ := List.getElem?_eq_some_iff.1 hr
        refine ⟨idRead_lt hy, ?_, by simp, ?_⟩
        · simp only [List.length_take]
          omega
        · simp only [List.length_take, List.length_append, List.length_cons]
          omega
      · cases h
    · cases h
  · rw [hFirst_miss s hm] at h
    cases h
/- All pieces of a text behind those that are read. -/
def hReadN : Nat → List Hd → List UInt8 → List Hd × Int × Int
  | 0, l, _ => (l, 0, -1)
  | n + 1, l, s => if s = [] then (l, 0, -1) else
    match hFirst s with
    | none => ([], 1, (l.length : Int))
    | some x => if markE (l ++ [x.1]) l.length = 0 then hReadN n (l ++ [x.1]) x.2 else ([], markE (l ++ [x.1]) l.length, (l.length : Int))
theorem hReadN_fuel : ∀ (n m : Nat) (l : List Hd) (s : List UInt8), s.length ≤ n → s.length ≤ m → hReadN n l s = hReadN m l s
  | 0, m, l, s, hn, _ => by
    have : s = [] := List.length_eq_zero_iff.1 (by omega)
    subst this
    cases m <;> simp [hReadN]
  | n + 1, 0, l, s, _, hm => by
    have : s = [] := List.length_eq_zero_iff.1 (by omega)
    subst this
    simp [hReadN]
  | n + 1, m + 1, l, s, hn, hm => by
    rw [hReadN, hReadN]
    split
    · rfl
    · split
      · rfl
      · rename_i x hx
        have := hFirst_less hx
        rw [hReadN_fuel n m (l ++ [x.1]) x.2 (by omega) (by omega)]
def hReads (l : List Hd) (s : List UInt8) : List Hd × Int × Int := hReadN (s.length + 1) l s
theorem hReads_nil (l : List Hd) : hReads l [] = (l, 0, -1) := by
  unfold hReads
  rw [hReadN, if_pos rfl]
theorem hReads_text (l : List Hd) (s : List UInt8) (h0 : s ≠ []) (h : hFirst s = none) : hReads l s = ([], 1, (l.length : Int)) := by
  unfold hReads
  rw [hReadN, if_neg h0, h]
theorem hReads_odd (l : List Hd) (s : List UInt8) (x : Hd × List UInt8) (h : hFirst s = some x) (he : markE (l ++ [x.1]) l.length ≠ 0) : hReads l s = ([], markE (l ++ [x.1]) l.length, (l.length : Int)) := by
  have h0 : s ≠ [] := fun e => by have := hFirst_less h; rw [e] at this; simp at this
  unfold hReads
  rw [hReadN, if_neg h0, h]
  simp only
  rw [if_neg he]
theorem hReads_next (l : List Hd) (s : List UInt8) (x : Hd × List UInt8) (h : hFirst s = some x) (he : markE (l ++ [x.1]) l.length = 0) : hReads l s = hReads (l ++ [x.1]) x.2 := by
  have h0 : s ≠ [] := fun e => by have := hFirst_less h; rw [e] at this; simp at this
  unfold hReads
  rw [hReadN, if_neg h0, h]
  simp only
  rw [if_pos he]
  exact hReadN_fuel _ _ _ _ (by have := hFirst_less h; omega) (by omega)
end Go.Proofs.YtmjdgakokldliaaGreatDoor
