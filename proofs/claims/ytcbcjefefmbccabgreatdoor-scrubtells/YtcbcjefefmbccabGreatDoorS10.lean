/-
  Own text. The document's bin by contracts: Put of a piece that is not there; Put.
  Own text. The document's bin by contracts: Put whatever the text; Sweep.
  Own text. A bin and the texts that were put into it (a log), pure: each piece is used as often as its text is in the log; what put, get, drop with sweep make of it.
-/
import Derived.Test.YtcbcjefefmbccabGreatDoorS09
import Derived.OwnWalk
import Derived.Test.YtcbcjefefmbccabGreatDoorS04
namespace Go.Proofs.YtcbcjefefmbccabGreatDoor
open Go.RowKit

/- The end of Put: the bin's new row, the bin's block written, the result written. -/
theorem row_some {w : World} {base : Nat} {e : TypeId} {size : Nat} {v : Value} {n : Nat} {xs : List Value} (h : w.ownsRow base e size v n xs) (hn : 1 ≤ n) : ∃ g cap, v = .slice (some ⟨g, 0, none⟩) n cap ∧ n ≤ cap ∧ cap ≤ maxLen := by
  obtain ⟨_, ho⟩ := h
  rcases ho with ⟨_, h0⟩ | ⟨g, cap, _, hv, _, _, h1, h2, _⟩
  · omega
  · exact ⟨g, cap, hv, h1, h2⟩
end Go.Proofs.YtcbcjefefmbccabGreatDoor
namespace Go.Proofs.YtcbcjefefmbccabGreatDoor
open Go.RowKit

end Go.Proofs.YtcbcjefefmbccabGreatDoor
namespace Go.Proofs.YtcbcjefefmbccabGreatDoor
open Go.RowKit

theorem rise_at_ne {l : List Hd} (hr : Rise l) {i k : Nat} (hi : i < l.length) (hk : k < l.length) (h : i ≠ k) : l[i].1 ≠ l[k].1 := by
  unfold Rise at hr
  rw [List.pairwise_iff_getElem] at hr
  rcases Nat.lt_or_gt_of_ne h with h | h
  · exact lessB_ne (hr i k hi hk h)
  · exact fun e => lessB_ne (hr k i hk hi h) e.symm
theorem modify_all {l : List Hd} {k : Nat} {d : Int} (hr : Rise l) (hk : k < l.length) {z : Hd} (hz : z ∈ l.modify k (hUse d)) : (z ∈ l ∧ z.1 ≠ l[k].1) ∨ z = hUse d l[k] := by
  obtain ⟨i, hi, rfl⟩ := List.getElem_of_mem hz
  rw [List.length_modify] at hi
  rw [List.getElem_modify]
  split
  · rename_i e
    subst e
    exact .inr rfl
  · rename_i e
    exact .inl ⟨List.getElem_mem _, rise_at_ne hr hi hk (fun h => e h.symm)⟩
theorem modify_other {l : List Hd} {k : Nat} {d : Int} (hk : k < l.length) {z : Hd} (hz : z ∈ l) (hn : z.1 ≠ l[k].1) : z ∈ l.modify k (hUse d) := by
  obtain ⟨i, hi, rfl⟩ := List.getElem_of_mem hz
  have hik : ¬ k = i := fun e => by subst e; exact hn rfl
  have h : (l.modify k (hUse d))[i]'(by rw [List.length_modify]; exact hi) = l[i] := by rw [List.getElem_modify, if_neg hik]
  rw [← h]
  exact List.getElem_mem _
theorem modify_own {l : List Hd} {k : Nat} {d : Int} (hk : k < l.length) : hUse d l[k] ∈ l.modify k (hUse d) := by
  have h : (l.modify k (hUse d))[k]'(by rw [List.length_modify]; exact hk) = hUse d l[k] := by rw [List.getElem_modify, if_pos rfl]
  rw [← h]
  exact List.getElem_mem _

structure Log (l : List Hd) (log : List (List UInt8)) : Prop where
  cnt : ∀ h ∈ l, h.2.1 = ((log.count h.2.2 : Nat) : Int)
  has : ∀ s ∈ log, ∃ u, (idOfL s, u, s) ∈ l
  only : ∀ h ∈ l, h.2.2 ∈ log
theorem Log.nil : Log [] [] := ⟨fun h hm => by simp at hm, fun s hm => by simp at hm, fun h hm => by simp at hm⟩
theorem Log.none {l : List Hd} (h : Log l []) : l = [] := by
  cases l with
  | nil => rfl
  | cons x r => have := h.only x (List.mem_cons_self ..); simp at this
theorem Log.used {l : List Hd} {log : List (List UInt8)} (h : Log l log) : ∀ x ∈ l, 1 ≤ x.2.1 := fun x hx => by
  have h1 := List.count_pos_iff.2 (h.only x hx)
  rw [h.cnt x hx]
  omega
theorem Log.sweep {l : List Hd} {log : List (List UInt8)} (h : Log l log) : (hSweep l).2 = l := by
  show l.filter _ = l
  rw [List.filter_eq_self]
  intro x hx
  have := h.used x hx
  have hn : ¬ x.2.1 = 0 := by omega
  simp [unused, hn]
theorem Log.one {U : Int} {l : List Hd} {log : List (List UInt8)} (hok : BinOk U l) (h : Log l log) {s : List UInt8} (hs : s ∈ log) : ∃ (k : Nat) (hk : k < l.length), hFind l (idOfL s) = some k ∧ l[k].1 = idOfL s ∧ l[k].2.2 = s := by
  obtain ⟨u, hu⟩ := h.has s hs
  obtain ⟨k, hk⟩ := hFind_mem hu
  obtain ⟨hkl, he⟩ := hFind_some hk
  have e := rise_inj hok.rise (List.getElem_mem hkl) hu he
  exact ⟨k, hkl, hk, he, by rw [e]⟩
theorem Log.get {U : Int} {l : List Hd} {log : List (List UInt8)} (hok : BinOk U l) (h : Log l log) {s : List UInt8} (hs : s ∈ log) : hGet l (idOfL s) = (s, 0) := by
  obtain ⟨k, hk, hf, _, ht⟩ := h.one hok hs
  simp only [hGet, hf, List.getElem?_eq_getElem hk, Option.map_some, Option.getD_some, ht]
theorem Log.same {U : Int} {l : List Hd} {log : List (List UInt8)} (hok : BinOk U l) (h : Log l log) {s t : List UInt8} (hs : s ∈ log) (ht : t ∈ log) (e : idOfL s = idOfL t) : s = t := by
  have h1 := h.get hok hs
  have h2 := h.get hok ht
  rw [e, h2] at h1
  exact (Prod.ext_iff.1 h1).1.symm
theorem Log.put {U : Int} {l : List Hd} {log : List (List UInt8)} (hok : BinOk U l) (h : Log l log) {s : List UInt8} (he : (hPut l s).1.2.2 = 0) : (hPut l s).1.1 = idOfL s ∧ Log (hPut l s).2 (log ++ [s]) := by
  revert he
  unfold hPut
  split
  · exact fun h => by simp at h
  · split
    · rename_i k hf
      obtain ⟨hk, hid⟩ := hFind_some hf
      split
      · rename_i ht
        intro _
        rw [List.getElem?_eq_getElem hk, Option.map_some] at ht
        have ht : l[k].2.2 = s := Option.some.inj ht
        refine ⟨rfl, fun z hz => ?_, fun t hm => ?_, fun z hz => ?_⟩
        · rcases modify_all hok.rise hk hz with ⟨hm, hn⟩ | rfl
          · have hne : s ≠ z.2.2 := fun e => hn (((hok.each z hm).1.trans (by rw [← e])).trans hid.symm)
            rw [h.cnt z hm, List.count_append, List.count_singleton]
            simp [hne]
          · show l[k].2.1 + 1 = ((log ++ [s]).count l[k].2.2 : Nat)
            rw [h.cnt _ (List.getElem_mem hk), ht, List.count_append, List.count_singleton_self]
            omega
        · by_cases e : t = s
          · subst e
            refine ⟨l[k].2.1 + 1, ?_⟩
            have := modify_own (d := 1) hk
            rw [hUse, hid, ht] at this
            exact this
          · have hm : t ∈ log := by
              rcases List.mem_append.1 hm with hm | hm
              · exact hm
              · exact absurd (List.mem_singleton.1 hm) e
            obtain ⟨u, hu⟩ := h.has t hm
            refine ⟨u, modify_other hk hu fun e2 => ?_⟩
            have := rise_inj hok.rise hu (List.getElem_mem hk) e2
            exact e (by rw [← ht, ← this])
        · rcases modify_all hok.rise hk hz with ⟨hm, hn⟩ | rfl
          · exact List.mem_append_left _ (h.only z hm)
          · exact List.mem_append_left _ (h.only l[k] (List.getElem_mem hk))
      · exact fun h => by simp at h
    · rename_i hf
      split
      · exact fun h => by simp at h
      · intro _
        have hno : s ∉ log := fun hs => by
          obtain ⟨u, hu⟩ := h.has s hs
          exact hFind_not hf _ hu rfl
        refine ⟨rfl, fun z hz => ?_, fun t hm => ?_, fun z hz => ?_⟩
        · rcases hIns_mem hz with rfl | hm
          · show (1 : Int) = ((log ++ [s]).count s : Nat)
            rw [List.count_append, List.count_singleton_self, List.count_eq_zero.2 hno]
            rfl
          · have hne : s ≠ z.2.2 := fun e => hno (e ▸ h.only z hm)
            rw [h.cnt z hm, List.count_append, List.count_singleton]
            simp [hne]
        · rcases List.mem_append.1 hm with hm | hm
          · obtain ⟨u, hu⟩ := h.has t hm
            exact ⟨u, mem_hIns (.inr hu)⟩
          · rw [List.mem_singleton.1 hm]
            exact ⟨1, mem_hIns (.inl rfl)⟩
        · rcases hIns_mem hz with rfl | hm
          · exact List.mem_append_right _ (List.mem_singleton.2 rfl)
          · exact List.mem_append_left _ (h.only z hm)
theorem Log.drop {U : Int} {l : List Hd} {s : List UInt8} {r : List (List UInt8)} (hok : BinOk U l) (h : Log l (s :: r)) : (hDrop l (idOfL s)).1 = 0 ∧ Log (hSweep (hDrop l (idOfL s)).2).2 r := by
  obtain ⟨k, hk, hf, hid, ht⟩ := h.one hok (List.mem_cons_self ..)
  have hc : l[k].2.1 = ((r.count s : Nat) : Int) + 1 := by
    rw [h.cnt _ (List.getElem_mem hk), ht, List.count_cons_self]
    omega
  have e : hDrop l (idOfL s) = (0, l.modify k (hUse (-1))) := by
    have hn : ¬ (l[k]?.map (·.2.1)) = some 0 := fun e => by
      rw [List.getElem?_eq_getElem hk, Option.map_some] at e
      have := Option.some.inj e
      omega
    simp only [hDrop, hf, if_neg hn]
  rw [e]
  refine ⟨rfl, fun z hz => ?_, fun t hm => ?_, fun z hz => ?_⟩
  · obtain ⟨hz, hu⟩ := List.mem_filter.1 hz
    rcases modify_all hok.rise hk hz with ⟨hm, hn⟩ | rfl
    · have hne : s ≠ z.2.2 := fun e => hn (((hok.each z hm).1.trans (by rw [← e])).trans hid.symm)
      rw [h.cnt z hm, List.count_cons_of_ne hne]
    · show l[k].2.1 + -1 = ((r.count l[k].2.2 : Nat) : Int)
      rw [hc, ht]
      omega
  · obtain ⟨u, hu⟩ := h.has t (List.mem_cons_of_mem _ hm)
    have hcp : 1 ≤ r.count t := List.count_pos_iff.2 hm
    by_cases e : t = s
    · subst e
      have ho := modify_own (d := -1) hk
      rw [hUse, hid, ht, hc] at ho
      refine ⟨_, List.mem_filter.2 ⟨ho, ?_⟩⟩
      have : ¬ (((r.count t : Nat) : Int) + 1 + -1) = 0 := by omega
      simp [unused, this]
    · refine ⟨u, List.mem_filter.2 ⟨modify_other hk hu fun e2 => ?_, ?_⟩⟩
      · have := rise_inj hok.rise hu (List.getElem_mem hk) e2
        exact e (by rw [← ht, ← this])
      · have := h.used _ hu
        have hn : ¬ u = 0 := by have h1 : 1 ≤ u := this; omega
        simp [unused, hn]
  · obtain ⟨hz, hu⟩ := List.mem_filter.1 hz
    rcases modify_all hok.rise hk hz with ⟨hm, hn⟩ | rfl
    · have hne : z.2.2 ≠ s := fun e => hn (((hok.each z hm).1.trans (by rw [e])).trans hid.symm)
      rcases List.mem_cons.1 (h.only z hm) with e | hm
      · exact absurd e hne
      · exact hm
    · show l[k].2.2 ∈ r
      rw [ht]
      have hnz : ¬ (l[k].2.1 + -1 = 0) := by
        intro e
        have : unused (hUse (-1) l[k]) = true := by simp only [unused, hUse, e]; rfl
        rw [this] at hu
        cases hu
      exact List.count_pos_iff.1 (by omega)
end Go.Proofs.YtcbcjefefmbccabGreatDoor
