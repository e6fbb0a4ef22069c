/-
  Own text. What every bin keeps, pure: the order, the lengths, IDs of the texts, uses within a bound; find in a list that is in order.
-/
import Derived.Test.YteefjbdejcpepaaDoorBinPure
namespace Go.Proofs.YteefjbdejcpepaaDoor

theorem lessB_trans {a b c : Nat × Int} (h1 : lessB a b = true) (h2 : lessB b c = true) : lessB a c = true := by
  rw [lessB_iff] at *
  omega
theorem lessB_irrefl (a : Nat × Int) : lessB a a = false := by
  cases h : lessB a a with
  | false => rfl
  | true => rw [lessB_iff] at h; omega
theorem lessB_flip {a b : Nat × Int} (h : lessB a b = false) (hn : a ≠ b) : lessB b a = true := by
  rw [lessB_iff]
  have h' : ¬ (a.1 < b.1 ∨ (a.1 = b.1 ∧ a.2 < b.2)) := fun e => by rw [← lessB_iff, h] at e; cases e
  have h2 : ¬ (a.1 = b.1 ∧ a.2 = b.2) := fun e => hn (Prod.ext e.1 e.2)
  omega
theorem lessB_ne {a b : Nat × Int} (h : lessB a b = true) : a ≠ b := fun e => by subst e; rw [lessB_irrefl] at h; cases h

def Rise (l : List Hd) : Prop := l.Pairwise (fun a b => lessB a.1 b.1 = true)
structure BinOk (U : Int) (l : List Hd) : Prop where
  many : l.length ≤ 250
  each : ∀ h ∈ l, h.1 = idOfL h.2.2 ∧ (1 ≤ h.2.2.length ∧ h.2.2.length ≤ 64) ∧ 0 ≤ h.2.1 ∧ h.2.1 ≤ U
  rise : Rise l
theorem BinOk.nil (U : Int) : BinOk U [] := ⟨by simp, (fun h hm => by simp at hm), List.Pairwise.nil⟩
theorem BinOk.mono {U V : Int} {l : List Hd} (h : BinOk U l) (hv : U ≤ V) : BinOk V l := ⟨h.many, fun x hx => by obtain ⟨a, b, c, d⟩ := h.each x hx; exact ⟨a, b, c, by omega⟩, h.rise⟩
theorem BinOk.lens {U : Int} {l : List Hd} (h : BinOk U l) : ∀ x ∈ l, 0 ≤ x.1.2 ∧ x.1.2 ≤ 64 := fun x hx => by
  obtain ⟨a, b, _⟩ := h.each x hx
  rw [a]
  simp only [idOfL]
  omega
theorem BinOk.uses {U V : Int} {l : List Hd} (h : BinOk U l) (hv : U ≤ V) : ∀ x ∈ l, 0 ≤ x.2.1 ∧ x.2.1 ≤ V := fun x hx => by
  obtain ⟨_, _, a, b⟩ := h.each x hx
  omega

theorem take_place : ∀ (l : List Hd) (x : Nat × Int), ∀ h ∈ l.take (hPlace l x), lessB h.1 x = true
  | [], _, h, hm => by simp at hm
  | y :: r, x, h, hm => by
    rw [hPlace] at hm
    split at hm
    · rename_i hy
      rw [List.take_succ_cons] at hm
      rcases List.mem_cons.1 hm with rfl | hm
      · exact hy
      · exact take_place r x h hm
    · simp at hm
theorem drop_place : ∀ (l : List Hd) (x : Nat × Int), Rise l → (∀ h ∈ l, h.1 ≠ x) → ∀ h ∈ l.drop (hPlace l x), lessB x h.1 = true
  | [], _, _, _, h, hm => by simp at hm
  | y :: r, x, hr, hn, h, hm => by
    rw [hPlace] at hm
    obtain ⟨hy, hr'⟩ := List.pairwise_cons.1 hr
    split at hm
    · rw [List.drop_succ_cons] at hm
      exact drop_place r x hr' (fun z hz => hn z (List.mem_cons_of_mem _ hz)) h hm
    · rename_i hnl
      have h1 : lessB x y.1 = true := lessB_flip (by simpa using hnl) (hn y (List.mem_cons_self ..))
      rw [List.drop_zero] at hm
      rcases List.mem_cons.1 hm with rfl | hm
      · exact h1
      · exact lessB_trans h1 (hy h hm)
theorem hIns_rise {l : List Hd} {h : Hd} (hr : Rise l) (hn : ∀ x ∈ l, x.1 ≠ h.1) : Rise (hIns l h) := by
  unfold hIns Rise
  have ht := take_place l h.1
  have hd := drop_place l h.1 hr hn
  have hs : (l.take (hPlace l h.1) ++ l.drop (hPlace l h.1)).Pairwise (fun a b => lessB a.1 b.1 = true) := by rw [List.take_append_drop]; exact hr
  obtain ⟨h1, h2, h3⟩ := List.pairwise_append.1 hs
  refine List.pairwise_append.2 ⟨h1, List.pairwise_cons.2 ⟨hd, h2⟩, fun a ha b hb => ?_⟩
  rcases List.mem_cons.1 hb with rfl | hb
  · exact ht a ha
  · exact h3 a ha b hb
theorem hIns_mem {l : List Hd} {h x : Hd} (hx : x ∈ hIns l h) : x = h ∨ x ∈ l := by
  unfold hIns at hx
  rcases List.mem_append.1 hx with hx | hx
  · exact .inr (List.mem_of_mem_take hx)
  · rcases List.mem_cons.1 hx with rfl | hx
    · exact .inl rfl
    · exact .inr (List.mem_of_mem_drop hx)
theorem mem_hIns {l : List Hd} {h x : Hd} (hx : x = h ∨ x ∈ l) : x ∈ hIns l h := by
  unfold hIns
  rcases hx with rfl | hx
  · exact List.mem_append_right _ (List.mem_cons_self ..)
  · have : x ∈ l.take (hPlace l h.1) ++ l.drop (hPlace l h.1) := by rw [List.take_append_drop]; exact hx
    rcases List.mem_append.1 this with h1 | h1
    · exact List.mem_append_left _ h1
    · exact List.mem_append_right _ (List.mem_cons_of_mem _ h1)
theorem hIns_length (l : List Hd) (h : Hd) : (hIns l h).length = l.length + 1 := by
  have := hPlace_le l h.1
  unfold hIns
  simp
  omega
theorem modify_rise {l : List Hd} (k : Nat) (d : Int) (hr : Rise l) : Rise (l.modify k (hUse d)) := by
  unfold Rise at *
  rw [List.pairwise_iff_getElem] at *
  intro i j hi hj hij
  rw [List.length_modify] at hi hj
  have := hr i j hi hj hij
  rw [List.getElem_modify, List.getElem_modify]
  split <;> split <;> simpa [hUse] using this
theorem modify_mem {l : List Hd} {k : Nat} {d : Int} {x : Hd} (hx : x ∈ l.modify k (hUse d)) : ∃ y ∈ l, x = y ∨ (x = hUse d y ∧ ∃ h : k < l.length, l[k] = y) := by
  obtain ⟨i, hi, rfl⟩ := List.getElem_of_mem hx
  rw [List.length_modify] at hi
  rw [List.getElem_modify]
  split
  · rename_i e
    subst e
    exact ⟨l[k], List.getElem_mem _, .inr ⟨rfl, hi, rfl⟩⟩
  · exact ⟨l[i], List.getElem_mem _, .inl rfl⟩
theorem hPut_ok {U : Int} {l : List Hd} (h : BinOk U l) (s : List UInt8) (hU : 0 ≤ U) : BinOk (U + 1) (hPut l s).2 := by
  unfold hPut
  split
  · exact h.mono (by omega)
  · rename_i hs
    split
    · rename_i k hf
      split
      · refine ⟨by rw [List.length_modify]; exact h.many, fun x hx => ?_, modify_rise k 1 h.rise⟩
        obtain ⟨y, hy, e⟩ := modify_mem hx
        obtain ⟨a, b, c, d⟩ := h.each y hy
        rcases e with rfl | ⟨rfl, _⟩
        · exact ⟨a, b, c, by omega⟩
        · exact ⟨a, b, by show 0 ≤ y.2.1 + 1; omega, by show y.2.1 + 1 ≤ U + 1; omega⟩
      · exact h.mono (by omega)
    · rename_i hf
      split
      · exact h.mono (by omega)
      · rename_i hl
        refine ⟨by rw [hIns_length]; omega, fun x hx => ?_, hIns_rise h.rise (hFind_not hf)⟩
        rcases hIns_mem hx with rfl | hx
        · exact ⟨rfl, by show 1 ≤ s.length ∧ s.length ≤ 64; omega, by show (0 : Int) ≤ 1; decide, by show (1 : Int) ≤ U + 1; omega⟩
        · obtain ⟨a, b, c, d⟩ := h.each x hx
          exact ⟨a, b, c, by omega⟩
theorem hDrop_ok {U : Int} {l : List Hd} (h : BinOk U l) (x : Nat × Int) : BinOk U (hDrop l x).2 := by
  unfold hDrop
  split
  · rename_i k hf
    split
    · exact h
    · rename_i hz
      refine ⟨by rw [List.length_modify]; exact h.many, fun z hx => ?_, modify_rise k (-1) h.rise⟩
      obtain ⟨y, hy, e⟩ := modify_mem hx
      obtain ⟨a, b, c, d⟩ := h.each y hy
      rcases e with rfl | ⟨rfl, hk, rfl⟩
      · exact ⟨a, b, c, d⟩
      · have hne : l[k].2.1 ≠ 0 := fun e => hz (by rw [List.getElem?_eq_getElem hk, Option.map_some, e])
        exact ⟨a, b, by show 0 ≤ l[k].2.1 + -1; omega, by show l[k].2.1 + -1 ≤ U; omega⟩
  · exact h
theorem hSweep_ok {U : Int} {l : List Hd} (h : BinOk U l) : BinOk U (hSweep l).2 :=
  ⟨Nat.le_trans (List.length_filter_le _ _) h.many, fun x hx => h.each x (List.mem_filter.1 hx).1, h.rise.filter _⟩
/- In order: what is there is found. -/
theorem rise_inj {l : List Hd} (hr : Rise l) {x y : Hd} (hx : x ∈ l) (hy : y ∈ l) (e : x.1 = y.1) : x = y := by
  obtain ⟨i, hi, rfl⟩ := List.getElem_of_mem hx
  obtain ⟨j, hj, rfl⟩ := List.getElem_of_mem hy
  unfold Rise at hr
  rw [List.pairwise_iff_getElem] at hr
  rcases Nat.lt_trichotomy i j with h | h | h
  · exact (lessB_ne (hr i j hi hj h) e).elim
  · subst h; rfl
  · exact (lessB_ne (hr j i hj hi h) e.symm).elim
theorem hFind_mem {l : List Hd} {x : Hd} (hx : x ∈ l) : ∃ k, hFind l x.1 = some k := by
  cases h : hFind l x.1 with
  | some k => exact ⟨k, rfl⟩
  | none => exact (hFind_not h x hx rfl).elim
/- Two lists in order that hold the same pieces are one. -/
theorem rise_ext : ∀ {a b : List Hd}, Rise a → Rise b → (∀ x, x ∈ a ↔ x ∈ b) → a = b
  | [], [], _, _, _ => rfl
  | [], y :: r, _, _, h => by have := (h y).2 (List.mem_cons_self ..); cases this
  | x :: r, [], _, _, h => by have := (h x).1 (List.mem_cons_self ..); cases this
  | x :: r, y :: t, ha, hb, h => by
    obtain ⟨ha1, ha2⟩ := List.pairwise_cons.1 ha
    obtain ⟨hb1, hb2⟩ := List.pairwise_cons.1 hb
    have exy : x = y := by
      rcases List.mem_cons.1 ((h x).1 (List.mem_cons_self ..)) with e | hx
      · exact e
      · rcases List.mem_cons.1 ((h y).2 (List.mem_cons_self ..)) with e | hy
        · exact e.symm
        · have h1 := hb1 x hx
          have h2 := ha1 y hy
          have := lessB_trans h1 h2
          rw [lessB_irrefl] at this
          cases this
    subst exy
    congr 1
    refine rise_ext ha2 hb2 fun z => ⟨fun hz => ?_, fun hz => ?_⟩
    · rcases List.mem_cons.1 ((h z).1 (List.mem_cons_of_mem _ hz)) with e | hz'
      · subst e; exact (lessB_ne (ha1 z hz) rfl).elim
      · exact hz'
    · rcases List.mem_cons.1 ((h z).2 (List.mem_cons_of_mem _ hz)) with e | hz'
      · subst e; exact (lessB_ne (hb1 z hz) rfl).elim
      · exact hz'
end Go.Proofs.YteefjbdejcpepaaDoor
