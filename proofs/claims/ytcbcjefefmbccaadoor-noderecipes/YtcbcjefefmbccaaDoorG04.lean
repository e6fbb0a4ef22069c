/-
  Own text. Bins as lists of pieces, pure: find, put, drop, sweep, size; how pieces lie in cells.
  Own text. What every bin keeps, pure: the order, the lengths, IDs of the texts, uses within a bound; find in a list that is in order.
  Own text. Memory that is followed through calls: new blocks, blocks that hold what they held (Blk), what lies between two block numbers (SameIn).
  Own text. How pieces lie in memory: slices of pieces (HeldsAt, HeldsIn); the document's bin (RBin); worlds that turn in some blocks alone (Off).
  Own text. What the program's package bin is to answer, as contracts (BinSpec), over what the world holds (Env) and an abstract bin in memory (PB: the pointer, the bin's own blocks, its pieces in order); two bins side by side (TwoBins); binned.
-/
import Derived.Test.YtcbcjefefmbccaaDoorG03
import Derived.Test.YtcbcjefefmbccaaDoorChecked
import Derived.WalkKit
import Derived.Below
import Derived.RangeFuncRecord
import Derived.Test.YtcbcjefefmbccaaDoorG02
namespace Go.Proofs.YtcbcjefefmbccaaDoor
open Go.RowKit

/- A piece of a bin: its ID, how often it is used, its text. -/
/- An ID whose numbers are such of their types. -/
def WfID (x : Nat × Int) : Prop := x.1 < 4294967296 ∧ -9223372036854775808 ≤ x.2 ∧ x.2 ≤ 9223372036854775807
abbrev Hd := (Nat × Int) × Int × List UInt8
abbrev heldV (h : Hd) : Value := .agg #[.int .u32 (h.1.1 : Nat), .int .i64 h.1.2, .int .i64 h.2.1, .string ⟨h.2.2.toArray⟩]
def heldCells : List Hd → List Value
  | [] => []
  | h :: r => .int .u32 (h.1.1 : Nat) :: .int .i64 h.1.2 :: .int .i64 h.2.1 :: .string ⟨h.2.2.toArray⟩ :: heldCells r
theorem heldCells_append : ∀ (a b : List Hd), heldCells (a ++ b) = heldCells a ++ heldCells b
  | [], _ => rfl
  | x :: r, b => by rw [List.cons_append, heldCells, heldCells_append r b, heldCells]; rfl
theorem heldCells_length : ∀ (a : List Hd), (heldCells a).length = a.length * 4
  | [] => rfl
  | x :: r => by rw [heldCells, List.length_cons, List.length_cons, List.length_cons, List.length_cons, heldCells_length r, List.length_cons]; omega
theorem heldCells_at : ∀ (a : List Hd) (i : Nat) (h : i < a.length), (heldCells a)[i * 4]? = some (.int .u32 (a[i].1.1 : Nat)) ∧ (heldCells a)[i * 4 + 1]? = some (.int .i64 a[i].1.2) ∧ (heldCells a)[i * 4 + 2]? = some (.int .i64 a[i].2.1) ∧ (heldCells a)[i * 4 + 3]? = some (.string ⟨a[i].2.2.toArray⟩)
  | x :: r, 0, _ => ⟨rfl, rfl, rfl, rfl⟩
  | x :: r, i + 1, h => by
    have := heldCells_at r i (by simpa using h)
    rw [show (i + 1) * 4 = i * 4 + 1 + 1 + 1 + 1 by omega]
    exact this
theorem heldCells_one (l : List Hd) : ∀ u ∈ heldCells l, u.oneCell' = true := by
  induction l with
  | nil => simp [heldCells]
  | cons x r ih =>
    intro u hu
    simp only [heldCells, List.mem_cons] at hu
    rcases hu with rfl | rfl | rfl | rfl | hu
    · rfl
    · rfl
    · rfl
    · rfl
    · exact ih u hu

/- Where a piece is. -/
def hFind : List Hd → Nat × Int → Option Nat
  | [], _ => none
  | h :: r, x => if h.1 = x then some 0 else (hFind r x).map (· + 1)
def findI (l : List Hd) (x : Nat × Int) : Int := match hFind l x with | some k => (k : Int) | none => -1
theorem hFind_at : ∀ (l : List Hd) (x : Nat × Int) (k : Nat) (h : k < l.length), (∀ j (hj : j < l.length), j < k → l[j].1 ≠ x) → l[k].1 = x → hFind l x = some k
  | [], _, _, h, _, _ => by simp at h
  | y :: r, x, 0, _, _, he => by
    have he' : y.1 = x := he
    rw [hFind, if_pos he']
  | y :: r, x, k + 1, h, ha, he => by
    have h0 : y.1 ≠ x := ha 0 (by simp) (by omega)
    rw [hFind, if_neg h0, hFind_at r x k (by simpa using h) (fun j hj hk => by have := ha (j + 1) (by simpa using hj) (by omega); simpa using this) (by simpa using he)]
    rfl
theorem hFind_none : ∀ (l : List Hd) (x : Nat × Int), (∀ j (hj : j < l.length), l[j].1 ≠ x) → hFind l x = none
  | [], _, _ => rfl
  | y :: r, x, ha => by
    have h0 : y.1 ≠ x := ha 0 (by simp)
    rw [hFind, if_neg h0, hFind_none r x (fun j hj => by have := ha (j + 1) (by simpa using hj); simpa using this)]
    rfl
theorem hFind_some : ∀ {l : List Hd} {x : Nat × Int} {k : Nat}, hFind l x = some k → ∃ h : k < l.length, l[k].1 = x
  | [], _, _, h => by cases h
  | y :: r, x, k, h => by
    rw [hFind] at h
    split at h
    · rename_i he
      cases h
      exact ⟨by simp, he⟩
    · cases hr : hFind r x with
      | none => rw [hr] at h; cases h
      | some j =>
        rw [hr] at h
        cases h
        obtain ⟨hj, he⟩ := hFind_some hr
        exact ⟨by simpa using hj, by simpa using he⟩
theorem hFind_not : ∀ {l : List Hd} {x : Nat × Int}, hFind l x = none → ∀ h ∈ l, h.1 ≠ x
  | [], _, _, _, hm => by cases hm
  | y :: r, x, h, z, hm => by
    rw [hFind] at h
    split at h
    · cases h
    · rename_i hne
      cases hr : hFind r x with
      | some j => rw [hr] at h; cases h
      | none =>
        rcases List.mem_cons.1 hm with rfl | hm
        · exact hne
        · exact hFind_not hr z hm
/- Where it comes by its ID. -/
def hPlace : List Hd → Nat × Int → Nat
  | [], _ => 0
  | h :: r, x => if lessB h.1 x = true then hPlace r x + 1 else 0
theorem hPlace_le : ∀ (l : List Hd) (x : Nat × Int), hPlace l x ≤ l.length
  | [], _ => Nat.le_refl _
  | h :: r, x => by
    rw [hPlace]
    split
    · have := hPlace_le r x; simp; omega
    · simp
theorem hPlace_at : ∀ (l : List Hd) (x : Nat × Int) (k : Nat), k ≤ l.length → (∀ j (hj : j < l.length), j < k → lessB l[j].1 x = true) → (∀ h : k < l.length, lessB l[k].1 x = false) → hPlace l x = k
  | [], _, k, h, _, _ => by simp at h; simp [hPlace, h]
  | y :: r, x, 0, _, _, he => by
    have he' : lessB y.1 x = false := he (by simp)
    rw [hPlace, he']
    rfl
  | y :: r, x, k + 1, h, ha, he => by
    have h0 : lessB y.1 x = true := ha 0 (by simp) (by omega)
    rw [hPlace, if_pos h0, hPlace_at r x k (by simpa using h) (fun j hj hk => by have := ha (j + 1) (by simpa using hj) (by omega); simpa using this) (fun h' => by have := he (by simpa using h'); simpa using this)]
def hIns (l : List Hd) (h : Hd) : List Hd := l.take (hPlace l h.1) ++ h :: l.drop (hPlace l h.1)
def hUse (d : Int) (h : Hd) : Hd := (h.1, h.2.1 + d, h.2.2)
def hPut (l : List Hd) (s : List UInt8) : ((Nat × Int) × Bool × Int) × List Hd :=
  if s.length < 1 ∨ 64 < s.length then (((0, 0), false, 2), l) else
    match hFind l (idOfL s) with
    | some k => if (l[k]?.map (·.2.2)) = some s then ((idOfL s, false, 0), l.modify k (hUse 1)) else (((0, 0), false, 10), l)
    | none => if 250 ≤ l.length then (((0, 0), false, 7), l) else ((idOfL s, true, 0), hIns l (idOfL s, 1, s))
def hDrop (l : List Hd) (x : Nat × Int) : Int × List Hd :=
  match hFind l x with
  | some k => if (l[k]?.map (·.2.1)) = some 0 then (11, l) else (0, l.modify k (hUse (-1)))
  | none => (5, l)
def unused (h : Hd) : Bool := decide (h.2.1 = 0)
def hSize (l : List Hd) : Int := (l.map (·.1.2)).sum
def hSweep (l : List Hd) : Int × List Hd := (hSize (l.filter unused), l.filter (fun h => !unused h))
theorem hSize_snoc (l : List Hd) (k : Nat) (h : k < l.length) : hSize (l.take (k + 1)) = hSize (l.take k) + l[k].1.2 := by
  rw [List.take_succ_eq_append_getElem h, hSize, List.map_append, List.sum_append]
  simp [hSize]
theorem hSize_bound : ∀ (l : List Hd) (b : Int), 0 ≤ b → (∀ h ∈ l, 0 ≤ h.1.2 ∧ h.1.2 ≤ b) → 0 ≤ hSize l ∧ hSize l ≤ l.length * b
  | [], b, _, _ => by simp [hSize]
  | x :: r, b, hb, ha => by
    have h1 := hSize_bound r b hb (fun h hm => ha h (List.mem_cons_of_mem _ hm))
    have h2 := ha x (List.mem_cons_self ..)
    have e : hSize (x :: r) = x.1.2 + hSize r := by simp [hSize]
    rw [e, List.length_cons]
    have e2 : ((r.length + 1 : Nat) : Int) * b = r.length * b + b := by push_cast; rw [Int.add_mul, Int.one_mul]
    omega
end Go.Proofs.YtcbcjefefmbccaaDoor
namespace Go.Proofs.YtcbcjefefmbccaaDoor

theorem lessB_trans {a b c : Nat × Int} (h1 : lessB a b = true) (h2 : lessB b c = true) : lessB a c = true := by
  rw [lessB_iff] at *
  omega
theorem lessB_irrefl (a : Nat × Int) : lessB a a = false := by
  cases h : lessB a a with
  | false => rfl
  | true => rw [lessB_iff] at h; omega
theorem lessB_flip {a b : Nat × Int} (h : lessB a b = false) (hn : a ≠ b) : lessB b a = true := by
  rw [lessB_iff]
  have h' : ¬ (a.1 < b.1 ∨ (a.1 = b.1 ∧ a.2 < b.2)) := fun e => by rw [← lessB_iff, h] at e; cases e
  have h2 : ¬ (a.1 = b.1 ∧ a.2 = b.2) := fun e => hn (Prod.ext e.1 e.2)
  omega
theorem lessB_ne {a b : Nat × Int} (h : lessB a b = true) : a ≠ b := fun e => by subst e; rw [lessB_irrefl] at h; cases h

def Rise (l : List Hd) : Prop := l.Pairwise (fun a b => lessB a.1 b.1 = true)
structure BinOk (U : Int) (l : List Hd) : Prop where
  many : l.length ≤ 250
  each : ∀ h ∈ l, h.1 = idOfL h.2.2 ∧ (1 ≤ h.2.2.length ∧ h.2.2.length ≤ 64) ∧ 0 ≤ h.2.1 ∧ h.2.1 ≤ U
  rise : Rise l
theorem BinOk.nil (U : Int) : BinOk U [] := ⟨by simp, (fun h hm => by simp at hm), List.Pairwise.nil⟩
theorem BinOk.mono {U V : Int} {l : List Hd} (h : BinOk U l) (hv : U ≤ V) : BinOk V l := ⟨h.many, fun x hx => by obtain ⟨a, b, c, d⟩ := h.each x hx; exact ⟨a, b, c, by omega⟩, h.rise⟩
theorem BinOk.lens {U : Int} {l : List Hd} (h : BinOk U l) : ∀ x ∈ l, 0 ≤ x.1.2 ∧ x.1.2 ≤ 64 := fun x hx => by
  obtain ⟨a, b, _⟩ := h.each x hx
  rw [a]
  simp only [idOfL]
  omega
theorem BinOk.uses {U V : Int} {l : List Hd} (h : BinOk U l) (hv : U ≤ V) : ∀ x ∈ l, 0 ≤ x.2.1 ∧ x.2.1 ≤ V := fun x hx => by
  obtain ⟨_, _, a, b⟩ := h.each x hx
  omega

theorem take_place : ∀ (l : List Hd) (x : Nat × Int), ∀ h ∈ l.take (hPlace l x), lessB h.1 x = true
  | [], _, h, hm => by simp at hm
  | y :: r, x, h, hm => by
    rw [hPlace] at hm
    split at hm
    · rename_i hy
      rw [List.take_succ_cons] at hm
      rcases List.mem_cons.1 hm with rfl | hm
      · exact hy
      · exact take_place r x h hm
    · simp at hm
theorem drop_place : ∀ (l : List Hd) (x : Nat × Int), Rise l → (∀ h ∈ l, h.1 ≠ x) → ∀ h ∈ l.drop (hPlace l x), lessB x h.1 = true
  | [], _, _, _, h, hm => by simp at hm
  | y :: r, x, hr, hn, h, hm => by
    rw [hPlace] at hm
    obtain ⟨hy, hr'⟩ := List.pairwise_cons.1 hr
    split at hm
    · rw [List.drop_succ_cons] at hm
      exact drop_place r x hr' (fun z hz => hn z (List.mem_cons_of_mem _ hz)) h hm
    · rename_i hnl
      have h1 : lessB x y.1 = true := lessB_flip (by simpa using hnl) (hn y (List.mem_cons_self ..))
      rw [List.drop_zero] at hm
      rcases List.mem_cons.1 hm with rfl | hm
      · exact h1
      · exact lessB_trans h1 (hy h hm)
theorem hIns_rise {l : List Hd} {h : Hd} (hr : Rise l) (hn : ∀ x ∈ l, x.1 ≠ h.1) : Rise (hIns l h) := by
  unfold hIns Rise
  have ht := take_place l h.1
  have hd := drop_place l h.1 hr hn
  have hs : (l.take (hPlace l h.1) ++ l.drop (hPlace l h.1)).Pairwise (fun a b => lessB a.1 b.1 = true) := by rw [List.take_append_drop]; exact hr
  obtain ⟨h1, h2, h3⟩ := List.pairwise_append.1 hs
  refine List.pairwise_append.2 ⟨h1, List.pairwise_cons.2 ⟨hd, h2⟩, fun a ha b hb => ?_⟩
  rcases List.mem_cons.1 hb with rfl | hb
  · exact ht a ha
  · exact h3 a ha b hb
theorem hIns_mem {l : List Hd} {h x : Hd} (hx : x ∈ hIns l h) : x = h ∨ x ∈ l := by
  unfold hIns at hx
  rcases List.mem_append.1 hx with hx | hx
  · exact .inr (List.mem_of_mem_take hx)
  · rcases List.mem_cons.1 hx with rfl | hx
    · exact .inl rfl
    · exact .inr (List.mem_of_mem_drop hx)
theorem mem_hIns {l : List Hd} {h x : Hd} (hx : x = h ∨ x ∈ l) : x ∈ hIns l h := by
  unfold hIns
  rcases hx with rfl | hx
  · exact List.mem_append_right _ (List.mem_cons_self ..)
  · have : x ∈ l.take (hPlace l h.1) ++ l.drop (hPlace l h.1) := by rw [List.take_append_drop]; exact hx
    rcases List.mem_append.1 this with h1 | h1
    · exact List.mem_append_left _ h1
    · exact List.mem_append_right _ (List.mem_cons_of_mem _ h1)
theorem hIns_length (l : List Hd) (h : Hd) : (hIns l h).length = l.length + 1 := by
  have := hPlace_le l h.1
  unfold hIns
  simp
  omega
theorem modify_rise {l : List Hd} (k : Nat) (d : Int) (hr : Rise l) : Rise (l.modify k (hUse d)) := by
  unfold Rise at *
  rw [List.pairwise_iff_getElem] at *
  intro i j hi hj hij
  rw [List.length_modify] at hi hj
  have := hr i j hi hj hij
  rw [List.getElem_modify, List.getElem_modify]
  split <;> split <;> simpa [hUse] using this
theorem modify_mem {l : List Hd} {k : Nat} {d : Int} {x : Hd} (hx : x ∈ l.modify k (hUse d)) : ∃ y ∈ l, x = y ∨ (x = hUse d y ∧ ∃ h : k < l.length, l[k] = y) := by
  obtain ⟨i, hi, rfl⟩ := List.getElem_of_mem hx
  rw [List.length_modify] at hi
  rw [List.getElem_modify]
  split
  · rename_i e
    subst e
    exact ⟨l[k], List.getElem_mem _, .inr ⟨rfl, hi, rfl⟩⟩
  · exact ⟨l[i], List.getElem_mem _, .inl rfl⟩
theorem hPut_ok {U : Int} {l : List Hd} (h : BinOk U l) (s : List UInt8) (hU : 0 ≤ U) : BinOk (U + 1) (hPut l s).2 := by
  unfold hPut
  split
  · exact h.mono (by omega)
  · rename_i hs
    split
    · rename_i k hf
      split
      · refine ⟨by rw [List.length_modify]; exact h.many, fun x hx => ?_, modify_rise k 1 h.rise⟩
        obtain ⟨y, hy, e⟩ := modify_mem hx
        obtain ⟨a, b, c, d⟩ := h.each y hy
        rcases e with rfl | ⟨rfl, _⟩
        · exact ⟨a, b, c, by omega⟩
        · exact ⟨a, b, by show 0 ≤ y.2.1 + 1; omega, by show y.2.1 + 1 ≤ U + 1; omega⟩
      · exact h.mono (by omega)
    · rename_i hf
      split
      · exact h.mono (by omega)
      · rename_i hl
        refine ⟨by rw [hIns_length]; omega, fun x hx => ?_, hIns_rise h.rise (hFind_not hf)⟩
        rcases hIns_mem hx with rfl | hx
        · exact ⟨rfl, by show 1 ≤ s.length ∧ s.length ≤ 64; omega, by show (0 : Int) ≤ 1; decide, by show (1 : Int) ≤ U + 1; omega⟩
        · obtain ⟨a, b, c, d⟩ := h.each x hx
          exact ⟨a, b, c, by omega⟩
theorem hDrop_ok {U : Int} {l : List Hd} (h : BinOk U l) (x : Nat × Int) : BinOk U (hDrop l x).2 := by
  unfold hDrop
  split
  · rename_i k hf
    split
    · exact h
    · rename_i hz
      refine ⟨by rw [List.length_modify]; exact h.many, fun z hx => ?_, modify_rise k (-1) h.rise⟩
      obtain ⟨y, hy, e⟩ := modify_mem hx
      obtain ⟨a, b, c, d⟩ := h.each y hy
      rcases e with rfl | ⟨rfl, hk, rfl⟩
      · exact ⟨a, b, c, d⟩
      · have hne : l[k].2.1 ≠ 0 := fun e => hz (by rw [List.getElem?_eq_getElem hk, Option.map_some, e])
        exact ⟨a, b, by show 0 ≤ l[k].2.1 + -1; omega, by show l[k].2.1 + -1 ≤ U; omega⟩
  · exact h
theorem hSweep_ok {U : Int} {l : List Hd} (h : BinOk U l) : BinOk U (hSweep l).2 :=
  ⟨Nat.le_trans (List.length_filter_le _ _) h.many, fun x hx => h.each x (List.mem_filter.1 hx).1, h.rise.filter _⟩
/- In order: what is there is found. -/
theorem rise_inj {l : List Hd} (hr : Rise l) {x y : Hd} (hx : x ∈ l) (hy : y ∈ l) (e : x.1 = y.1) : x = y := by
  obtain ⟨i, hi, rfl⟩ := List.getElem_of_mem hx
  obtain ⟨j, hj, rfl⟩ := List.getElem_of_mem hy
  unfold Rise at hr
  rw [List.pairwise_iff_getElem] at hr
  rcases Nat.lt_trichotomy i j with h | h | h
  · exact (lessB_ne (hr i j hi hj h) e).elim
  · subst h; rfl
  · exact (lessB_ne (hr j i hj hi h) e.symm).elim
theorem hFind_mem {l : List Hd} {x : Hd} (hx : x ∈ l) : ∃ k, hFind l x.1 = some k := by
  cases h : hFind l x.1 with
  | some k => exact ⟨k, rfl⟩
  | none => exact (hFind_not h x hx rfl).elim
/- Two lists in order that hold the same pieces are one. -/
theorem rise_ext : ∀ {a b : List Hd}, Rise a → Rise b → (∀ x, x ∈ a ↔ x ∈ b) → a = b
  | [], [], _, _, _ => rfl
  | [], y :: r, _, _, h => by have := (h y).2 (List.mem_cons_self ..); cases this
  | x :: r, [], _, _, h => by have := (h x).1 (List.mem_cons_self ..); cases this
  | x :: r, y :: t, ha, hb, h => by
    obtain ⟨ha1, ha2⟩ := List.pairwise_cons.1 ha
    obtain ⟨hb1, hb2⟩ := List.pairwise_cons.1 hb
    have exy : x = y := by
      rcases List.mem_cons.1 ((h x).1 (List.mem_cons_self ..)) with e | hx
      · exact e
      · rcases List.mem_cons.1 ((h y).2 (List.mem_cons_self ..)) with e | hy
        · exact e.symm
        · have h1 := hb1 x hx
          have h2 := ha1 y hy
          have := lessB_trans h1 h2
          rw [lessB_irrefl] at this
          cases this
    subst exy
    congr 1
    refine rise_ext ha2 hb2 fun z => ⟨fun hz => ?_, fun hz => ?_⟩
    · rcases List.mem_cons.1 ((h z).1 (List.mem_cons_of_mem _ hz)) with e | hz'
      · subst e; exact (lessB_ne (ha1 z hz) rfl).elim
      · exact hz'
    · rcases List.mem_cons.1 ((h z).2 (List.mem_cons_of_mem _ hz)) with e | hz'
      · subst e; exact (lessB_ne (hb1 z hz) rfl).elim
      · exact hz'
end Go.Proofs.YtcbcjefefmbccaaDoor
namespace Go.Proofs.YtcbcjefefmbccaaDoor
open Go.RowKit

theorem hideN {q : Prop} (h : q) : Hid q := h
theorem frozen_alloc_lt' (w : World) (o : Obj) {b i : Nat} (h : b < w.heap.size) : (w.alloc o).frozen? ⟨b, i, none⟩ = w.frozen? ⟨b, i, none⟩ := World.frozen?_of_block (w := w) (Below.heap_alloc w o b h)
theorem new_cell (W : World) (cs : Array Value) (t : TypeId) {i B : Nat} {v : Value} (h : cs[i]? = some v) (hB : B = W.heap.size) : (W.alloc (.cells cs t)).cell? ⟨B, i, none⟩ = some v := by
  subst hB
  have h2 := World.alloc_heap_new W (.cells cs t)
  simp only [World.cell?, h2, h]
  rfl
theorem new_frozen (W : World) (cs : Array Value) (t : TypeId) {i B : Nat} (hB : B = W.heap.size) : (W.alloc (.cells cs t)).frozen? ⟨B, i, none⟩ = false := by
  subst hB
  have h2 := World.alloc_heap_new W (.cells cs t)
  simp only [World.frozen?, h2]
  simp
theorem grown_of_below {w w' : World} (h : Below w.heap.size w w') : w.grownBy w' none := ⟨h.os, h.tape, h.output, h.size, fun k hk _ => h.block k hk⟩
theorem below_of_grown {w w' : World} (h : w.grownBy w' none) : Below w.heap.size w w' := ⟨h.os, h.tape, h.output, h.size, fun k hk => h.block k hk (by simp)⟩
theorem row_below {w w' : World} {base : Nat} {e : TypeId} {size : Nat} {v : Value} {n : Nat} {xs : List Value} (h : w.ownsRow base e size v n xs) (hb : Below w.heap.size w w') : w'.ownsRow base e size v n xs := by
  refine h.kept (grown_of_below hb) ?_
  cases hv : v.ownBlock with
  | none => exact .inl rfl
  | some j => exact .inr (by simp)
/- Block B holds cs. -/
def Blk (W : World) (B : Nat) (cs : Array Value) (t : TypeId) : Prop := W.heap[B]? = some (.cells cs t (0, 0))
theorem Blk.lt {W : World} {B : Nat} {cs : Array Value} {t : TypeId} (h : Blk W B cs t) : B < W.heap.size := (Array.getElem?_eq_some_iff.1 h).1
theorem Blk.cell {W : World} {B : Nat} {cs : Array Value} {t : TypeId} (h : Blk W B cs t) {i : Nat} {u : Value} (hi : cs[i]? = some u) : W.cell? ⟨B, i, none⟩ = some u := by
  simp only [World.cell?, show W.heap[B]? = _ from h, hi]
  rfl
theorem Blk.frozen {W : World} {B : Nat} {cs : Array Value} {t : TypeId} (h : Blk W B cs t) (i : Nat) : W.frozen? ⟨B, i, none⟩ = false := by
  simp only [World.frozen?, show W.heap[B]? = _ from h]
  simp
theorem Blk.next {W W' : World} {B : Nat} {cs : Array Value} {t : TypeId} (h : Blk W B cs t) (hb : Below W.heap.size W W') : Blk W' B cs t := (hb.block B h.lt).trans h
theorem Blk.new (W : World) (cs : Array Value) (t : TypeId) : Blk (W.alloc (.cells cs t)) W.heap.size cs t := World.alloc_heap_new W _
theorem Blk.set {W : World} {B : Nat} {cs : Array Value} {t : TypeId} (h : Blk W B cs t) (i : Nat) (u : Value) : Blk (W.setCell ⟨B, i, none⟩ u) B (cs.setIfInBounds i u) t := by
  obtain ⟨hlt, hk⟩ := Array.getElem?_eq_some_iff.1 h
  show (W.heap.modify B _)[B]? = _
  rw [Array.getElem?_eq_getElem (by rw [Array.size_modify]; exact hlt), Array.getElem_modify_self, hk]
  simp
theorem Blk.other {W : World} {B : Nat} {cs : Array Value} {t : TypeId} (h : Blk W B cs t) {a : Addr} (ha : B ≠ a.block) (u : Value) : Blk (W.setCell a u) B cs t := (Below.heap_setCell W a u B ha).trans h
/- Between two block numbers nothing has turned. -/
def SameIn (lo hi : Nat) (W W' : World) : Prop := ∀ b, lo ≤ b → b < hi → W'.heap[b]? = W.heap[b]?
theorem SameIn.refl (lo hi : Nat) (W : World) : SameIn lo hi W W := fun _ _ _ => rfl
theorem SameIn.next {lo hi : Nat} {W W' W'' : World} (h : SameIn lo hi W W') (hs : hi ≤ W'.heap.size) (hb : Below W'.heap.size W' W'') : SameIn lo hi W W'' := fun b h1 h2 => (hb.block b (by omega)).trans (h b h1 h2)
theorem SameIn.setCell {lo hi : Nat} {W W' : World} (h : SameIn lo hi W W') {a : Addr} (ha : a.block < lo ∨ hi ≤ a.block) (u : Value) : SameIn lo hi W (W'.setCell a u) := fun b h1 h2 => (Below.heap_setCell W' a u b (by omega)).trans (h b h1 h2)
theorem Blk.below {W W' : World} {B n : Nat} {cs : Array Value} {t : TypeId} (h : Blk W B cs t) (hb : Below n W W') (hn : B < n) : Blk W' B cs t := (hb.block B hn).trans h
theorem SameIn.below {lo hi n : Nat} {W W' W'' : World} (h : SameIn lo hi W W') (hn : hi ≤ n) (hb : Below n W' W'') : SameIn lo hi W W'' := fun b h1 h2 => (hb.block b (by omega)).trans (h b h1 h2)
theorem SameIn.cell {lo hi : Nat} {W W' : World} (h : SameIn lo hi W W') {b : Nat} (h1 : lo ≤ b) (h2 : b < hi) (o : Nat) : W'.cell? ⟨b, o, none⟩ = W.cell? ⟨b, o, none⟩ := World.cell?_of_block (w := W) (h b h1 h2)
end Go.Proofs.YtcbcjefefmbccaaDoor
namespace Go.Proofs.YtcbcjefefmbccaaDoor
open Go.RowKit

/- Of the blocks that were there only those of F may have turned. -/
structure Off (F : Nat → Prop) (w w' : World) : Prop where
  os : w'.os = w.os
  tape : w'.tape = w.tape
  output : w'.output = w.output
  size : w.heap.size ≤ w'.heap.size
  block : ∀ k, k < w.heap.size → ¬ F k → w'.heap[k]? = w.heap[k]?
theorem Off.of_below {F : Nat → Prop} {w w' : World} (h : Below w.heap.size w w') : Off F w w' := ⟨h.os, h.tape, h.output, h.size, fun k hk _ => h.block k hk⟩
theorem Off.refl (F : Nat → Prop) (w : World) : Off F w w := ⟨rfl, rfl, rfl, Nat.le_refl _, fun _ _ _ => rfl⟩
theorem Off.trans {F G : Nat → Prop} {a b c : World} (h : Off F a b) (k : Off G b c) (hG : ∀ i, i < a.heap.size → G i → F i) : Off F a c :=
  ⟨k.os.trans h.os, k.tape.trans h.tape, k.output.trans h.output, Nat.le_trans h.size k.size, fun i hi hf => (k.block i (Nat.lt_of_lt_of_le hi h.size) (fun hg => hf (hG i hi hg))).trans (h.block i hi hf)⟩
theorem Off.mono {F G : Nat → Prop} {a b : World} (h : Off F a b) (hG : ∀ i, i < a.heap.size → F i → G i) : Off G a b := ⟨h.os, h.tape, h.output, h.size, fun i hi hg => h.block i hi (fun hf => hg (hG i hi hf))⟩
theorem Off.setCell {F : Nat → Prop} {a b : World} (h : Off F a b) {p : Addr} (hp : F p.block ∨ a.heap.size ≤ p.block) (u : Value) : Off F a (b.setCell p u) :=
  ⟨h.os, h.tape, h.output, by simpa [World.setCell] using h.size, fun k hk hf => (Below.heap_setCell b p u k (fun e => by subst e; rcases hp with hp | hp; exact hf hp; omega)).trans (h.block k hk hf)⟩
theorem Off.below {F : Nat → Prop} {w w' : World} {n : Nat} (h : Off F w w') (hn : n ≤ w.heap.size) (hF : ∀ k, k < n → ¬ F k) : Below n w w' := ⟨h.os, h.tape, h.output, h.size, fun k hk => h.block k (Nat.lt_of_lt_of_le hk hn) (hF k hk)⟩
theorem Off.blk {F : Nat → Prop} {w w' : World} (h : Off F w w') {B : Nat} {cs : Array Value} {t : TypeId} (hB : Blk w B cs t) (hn : ¬ F B) : Blk w' B cs t := (h.block B hB.lt hn).trans hB
theorem Off.row {F : Nat → Prop} {w w' : World} (h : Off F w w') {base : Nat} {e : TypeId} {size : Nat} {v : Value} {n : Nat} {xs : List Value} (ho : w.ownsRow base e size v n xs) (hn : ∀ k, v.ownBlock = some k → ¬ F k) : w'.ownsRow base e size v n xs := by
  obtain ⟨hl, ho⟩ := ho
  refine ⟨hl, ?_⟩
  rcases ho with ho | ⟨g, cap, cur, rfl, hg, hb, h1, h2, h3, h4⟩
  · exact .inl ho
  · exact .inr ⟨g, cap, cur, rfl, hg, (h.block g (Array.getElem?_eq_some_iff.1 hb).1 (hn g rfl)).trans hb, h1, h2, h3, h4⟩

/- v is a slice of pieces. -/
def HeldsAt (w : World) (v : Value) (l : List Hd) : Prop :=
  ∃ (p : Option Addr) (c : Nat), v = .slice p l.length c ∧ ∀ i (h : i < l.length), ∃ b o, p = some ⟨b, o, none⟩ ∧ (b < w.heap.size ∧ l.length ≤ c) ∧ w.cell? ⟨b, o + i * 4, none⟩ = some (.int .u32 (l[i].1.1 : Nat)) ∧ w.cell? ⟨b, o + i * 4 + 1, none⟩ = some (.int .i64 l[i].1.2) ∧
    w.cell? ⟨b, o + i * 4 + 2, none⟩ = some (.int .i64 l[i].2.1) ∧ w.cell? ⟨b, o + i * 4 + 3, none⟩ = some (.string ⟨l[i].2.2.toArray⟩)
theorem HeldsAt.below {w w' : World} {v : Value} {l : List Hd} (h : HeldsAt w v l) (hb : Below w.heap.size w w') : HeldsAt w' v l := by
  obtain ⟨p, c, rfl, h⟩ := h
  refine ⟨p, c, rfl, fun i hi => ?_⟩
  obtain ⟨b, o, hp, ⟨hlt, hc⟩, h1, h2, h3, h4⟩ := h i hi
  exact ⟨b, o, hp, ⟨Nat.lt_of_lt_of_le hlt hb.size, hc⟩, (hb.cell (p := ⟨b, o + i * 4, none⟩) hlt).trans h1, (hb.cell (p := ⟨b, o + i * 4 + 1, none⟩) hlt).trans h2, (hb.cell (p := ⟨b, o + i * 4 + 2, none⟩) hlt).trans h3, (hb.cell (p := ⟨b, o + i * 4 + 3, none⟩) hlt).trans h4⟩
theorem HeldsAt.off {F : Nat → Prop} {w w' : World} {v : Value} {l : List Hd} (h : HeldsAt w v l) (ho : Off F w w') (hn : ∀ k, v.ownBlock = some k → ¬ F k) : HeldsAt w' v l := by
  obtain ⟨p, c, rfl, h⟩ := h
  refine ⟨p, c, rfl, fun i hi => ?_⟩
  obtain ⟨b, o, rfl, ⟨hlt, hc⟩, h1, h2, h3, h4⟩ := h i hi
  have e : ∀ j, w'.cell? ⟨b, j, none⟩ = w.cell? ⟨b, j, none⟩ := fun j => World.cell?_of_block (w := w) (ho.block b hlt (hn b rfl))
  exact ⟨b, o, rfl, ⟨Nat.lt_of_lt_of_le hlt ho.size, hc⟩, (e _).trans h1, (e _).trans h2, (e _).trans h3, (e _).trans h4⟩
theorem HeldsAt.nil (w : World) : HeldsAt w (.slice none 0 0) [] := ⟨none, 0, rfl, fun i hi => by simp at hi⟩
theorem HeldsAt.of_row {w : World} {base : Nat} {e : TypeId} {v : Value} {l : List Hd} (h : w.ownsRow base e 4 v l.length (heldCells l)) : HeldsAt w v l := by
  obtain ⟨hl, h⟩ := h
  rcases h with ⟨rfl, h0⟩ | ⟨g, cap, cur, rfl, hg, hb, h1, h2, h3, h4⟩
  · exact ⟨none, 0, by rw [h0], fun i hi => by omega⟩
  · have hgl : g < w.heap.size := (Array.getElem?_eq_some_iff.1 hb).1
    have hc : ∀ j u, (heldCells l)[j]? = some u → w.cell? ⟨g, 0 + j, none⟩ = some u := fun j u hj => by
      have hjl : j < (heldCells l).length := (List.getElem?_eq_some_iff.1 hj).1
      have e1 : cur.toList[j]? = some u := by
        rw [← hj, ← h4, List.getElem?_take, if_pos (by omega)]
      rw [Nat.zero_add]
      simp only [World.cell?, hb]
      rw [← Array.getElem?_toList, e1]
      simp
    exact ⟨some ⟨g, 0, none⟩, cap, rfl, fun i hi => ⟨g, 0, rfl, ⟨hgl, h1⟩, hc _ _ (heldCells_at l i hi).1, hc _ _ (heldCells_at l i hi).2.1, hc _ _ (heldCells_at l i hi).2.2.1, hc _ _ (heldCells_at l i hi).2.2.2⟩⟩
/- The cells of a slice of pieces, one behind the other. -/
theorem heldCells_cells {W : World} {b o : Nat} {l : List Hd} (h : ∀ i (h : i < l.length), W.cell? ⟨b, o + i * 4, none⟩ = some (.int .u32 (l[i].1.1 : Nat)) ∧ W.cell? ⟨b, o + i * 4 + 1, none⟩ = some (.int .i64 l[i].1.2) ∧ W.cell? ⟨b, o + i * 4 + 2, none⟩ = some (.int .i64 l[i].2.1) ∧ W.cell? ⟨b, o + i * 4 + 3, none⟩ = some (.string ⟨l[i].2.2.toArray⟩)) :
    ∀ j u, (heldCells l)[j]? = some u → W.cell? ((⟨b, o, none⟩ : Addr).add j) = some u := by
  intro j u hj
  have hjl : j < (heldCells l).length := (List.getElem?_eq_some_iff.1 hj).1
  rw [heldCells_length] at hjl
  have hi : j / 4 < l.length := by omega
  have ha : (⟨b, o, none⟩ : Addr).add j = ⟨b, o + j, none⟩ := by unfold Addr.add; split <;> simp_all
  rw [ha]
  obtain ⟨e0, e1, e2, e3⟩ := heldCells_at l (j / 4) hi
  obtain ⟨h0, h1, h2, h3⟩ := h (j / 4) hi
  have : j % 4 = 0 ∨ j % 4 = 1 ∨ j % 4 = 2 ∨ j % 4 = 3 := by omega
  rcases this with hm | hm | hm | hm
  · rw [show j / 4 * 4 = j by omega] at e0 h0
    rw [h0, ← hj, e0]
  · rw [show j / 4 * 4 + 1 = j by omega] at e1
    rw [Nat.add_assoc, show j / 4 * 4 + 1 = j by omega] at h1
    rw [h1, ← hj, e1]
  · rw [show j / 4 * 4 + 2 = j by omega] at e2
    rw [Nat.add_assoc, show j / 4 * 4 + 2 = j by omega] at h2
    rw [h2, ← hj, e2]
  · rw [show j / 4 * 4 + 3 = j by omega] at e3
    rw [Nat.add_assoc, show j / 4 * 4 + 3 = j by omega] at h3
    rw [h3, ← hj, e3]

/- The document's bin: a block with a slice, and the slice's own row. -/
structure RBin (w : World) (B : Nat) (v : Value) (l : List Hd) : Prop where
  blk : Blk w B #[v] 72
  row : w.ownsRow 0 77 4 v l.length (heldCells l)
/- Its blocks. -/
def RBin.Of (B : Nat) (v : Value) (k : Nat) : Prop := k = B ∨ v.ownBlock = some k
theorem RBin.at {w : World} {B : Nat} {v : Value} {l : List Hd} (h : RBin w B v l) : HeldsAt w v l := HeldsAt.of_row h.row
theorem RBin.lt {w : World} {B : Nat} {v : Value} {l : List Hd} (h : RBin w B v l) {k : Nat} (hk : RBin.Of B v k) : k < w.heap.size := by
  rcases hk with rfl | hk
  · exact h.blk.lt
  · exact (h.row.lt k hk).2
theorem RBin.off {F : Nat → Prop} {w w' : World} {B : Nat} {v : Value} {l : List Hd} (h : RBin w B v l) (ho : Off F w w') (hn : ∀ k, RBin.Of B v k → ¬ F k) : RBin w' B v l := ⟨ho.blk h.blk (hn B (.inl rfl)), ho.row h.row (fun k hk => hn k (.inr hk))⟩
theorem RBin.below {w w' : World} {B : Nat} {v : Value} {l : List Hd} (h : RBin w B v l) (hb : Below w.heap.size w w') : RBin w' B v l := h.off (Off.of_below (F := fun _ => False) hb) (fun _ _ h => h)
theorem RBin.apart {w : World} {B : Nat} {v : Value} {l : List Hd} (h : RBin w B v l) : v.ownBlock ≠ some B := by
  intro e
  obtain ⟨_, ho⟩ := h.row
  rcases ho with ⟨rfl, _⟩ | ⟨g, cap, cur, rfl, _, hb, _⟩
  · cases e
  · have eg : g = B := by simpa [Value.ownBlock] using e
    subst eg
    have hB : w.heap[g]? = some (.cells #[.slice (some ⟨g, 0, none⟩) l.length cap] 72 (0, 0)) := h.blk
    rw [hb] at hB
    have := (Obj.cells.inj (Option.some.inj hB)).2.1
    exact absurd this (by decide)
theorem infoHeld : (Tryd.prog.info? 77).map (fun i => (i.zero, i.size, i.bytes)) = some (some (heldV ((0, 0), 0, [])), 4, 40) := by kernel_rfl
end Go.Proofs.YtcbcjefefmbccaaDoor
namespace Go.Proofs.YtcbcjefefmbccaaDoor
open Go.RowKit

def hGet (l : List Hd) (x : Nat × Int) : List UInt8 × Int := match hFind l x with | some k => ((l[k]?.map (·.2.2)).getD [], 0) | none => ([], 5)
abbrev PBin := World → Addr → (Nat → Prop) → List Hd → Prop
structure BinSpec (a : Nat → Addr) (Env : World → Prop) (PB : PBin) : Prop where
  stable : ∀ {w w' : World}, Env w → Below w.heap.size w w' → Env w'
  lt : ∀ {w : World} {p : Addr} {F : Nat → Prop} {l : List Hd}, PB w p F l → ∀ k, F k → k < w.heap.size
  off : ∀ {w w' : World} {p : Addr} {F G : Nat → Prop} {l : List Hd}, PB w p F l → Off G w w' → (∀ k, F k → ¬ G k) → PB w' p F l
  new : ∀ (w : World), Env w → Calls Tryd.prog 28 #[] w fun e w' => ∃ p F, e = .returned (.pointer (some p)) ∧ PB w' p F [] ∧ (∀ k, F k → w.heap.size ≤ k) ∧ Below w.heap.size w w'
  put : ∀ (s : ByteArray) (p : Addr) (F : Nat → Prop) (l : List Hd) (w : World), s.size ≤ 50000 → BinOk 1000000 l → Env w → PB w p F l → Calls Tryd.prog 30 #[.pointer (some p), .string s] w fun e w' => ∃ ev F', e = .returned (.tuple #[idV ((hPut l s.data.toList).1.1.1 : Nat) (hPut l s.data.toList).1.1.2, .bool (hPut l s.data.toList).1.2.1, ev]) ∧ ErrIn w.heap.size w' a ev ((hPut l s.data.toList).1.2.2, -1) ∧ PB w' p F' (hPut l s.data.toList).2 ∧ (∀ k, F' k → F k ∨ w.heap.size ≤ k) ∧ Off F w w'
  get : ∀ (x : Nat × Int) (p : Addr) (F : Nat → Prop) (l : List Hd) (w : World), WfID x → BinOk 1000000 l → Env w → PB w p F l → Calls Tryd.prog 31 #[.pointer (some p), idV (x.1 : Nat) x.2] w fun e w' => ∃ ev, e = .returned (.tuple #[.string ⟨(hGet l x).1.toArray⟩, ev]) ∧ ErrIn w.heap.size w' a ev ((hGet l x).2, -1) ∧ Below w.heap.size w w'
  drop : ∀ (x : Nat × Int) (p : Addr) (F : Nat → Prop) (l : List Hd) (w : World), WfID x → BinOk 1000000 l → Env w → PB w p F l → Calls Tryd.prog 36 #[.pointer (some p), idV (x.1 : Nat) x.2] w fun e w' => ∃ ev F', e = .returned ev ∧ ErrIn w.heap.size w' a ev ((hDrop l x).1, -1) ∧ PB w' p F' (hDrop l x).2 ∧ (∀ k, F' k → F k ∨ w.heap.size ≤ k) ∧ Off F w w'
  sweep : ∀ (p : Addr) (F : Nat → Prop) (l : List Hd) (w : World), BinOk 1000000 l → Env w → PB w p F l → Calls Tryd.prog 29 #[.pointer (some p)] w fun e w' => ∃ F', e = .returned (.int .i64 (hSweep l).1) ∧ PB w' p F' (hSweep l).2 ∧ (∀ k, F' k → F k ∨ w.heap.size ≤ k) ∧ Off F w w'
  size : ∀ (p : Addr) (F : Nat → Prop) (l : List Hd) (w : World), BinOk 1000000 l → Env w → PB w p F l → Calls Tryd.prog 37 #[.pointer (some p)] w fun e w' => e = .returned (.int .i64 (hSize l)) ∧ Below w.heap.size w w'
  copy : ∀ (p : Addr) (F : Nat → Prop) (l : List Hd) (w : World), BinOk 1000000 l → Env w → PB w p F l → Calls Tryd.prog 43 #[.pointer (some p)] w fun e w' => ∃ p' F', e = .returned (.pointer (some p')) ∧ PB w' p' F' l ∧ (∀ k, F' k → w.heap.size ≤ k) ∧ Below w.heap.size w w'
  all : ∀ (p : Addr) (F : Nat → Prop) (l : List Hd) (w : World), BinOk 1000000 l → Env w → PB w p F l → Calls Tryd.prog 32 #[.pointer (some p)] w fun e w' => ∃ v, e = .returned v ∧ HeldsAt w' v l ∧ Below w.heap.size w w'

theorem BinSpec.below {a : Nat → Addr} {Env : World → Prop} {PB : PBin} (S : BinSpec a Env PB) {w w' : World} {p : Addr} {F : Nat → Prop} {l : List Hd} (h : PB w p F l) (hb : Below w.heap.size w w') : PB w' p F l := S.off h (Off.of_below (F := fun _ => False) hb) (fun _ _ h => h)

/- The program's bin and the document's, side by side, in memory that is new since w. -/
structure TwoBins (PB : PBin) (w W : World) (p : Addr) (F : Nat → Prop) (lp : List Hd) (B : Nat) (v : Value) (lr : List Hd) : Prop where
  below : Below w.heap.size w W
  pb : PB W p F lp
  rb : RBin W B v lr
  apart : ∀ k, F k → ¬ RBin.Of B v k
  pnew : ∀ k, F k → w.heap.size ≤ k
  rnew : ∀ k, RBin.Of B v k → w.heap.size ≤ k
theorem TwoBins.next {a : Nat → Addr} {Env : World → Prop} {PB : PBin} (S : BinSpec a Env PB) {w W W' : World} {p : Addr} {F : Nat → Prop} {lp : List Hd} {B : Nat} {v : Value} {lr : List Hd} (h : TwoBins PB w W p F lp B v lr) (hb : Below W.heap.size W W') : TwoBins PB w W' p F lp B v lr :=
  ⟨h.below.trans (hb.mono h.below.size), S.below h.pb hb, h.rb.below hb, h.apart, h.pnew, h.rnew⟩
theorem TwoBins.prog {PB : PBin} {w W W' : World} {p : Addr} {F F' : Nat → Prop} {lp lp' : List Hd} {B : Nat} {v : Value} {lr : List Hd} (h : TwoBins PB w W p F lp B v lr) (hp : PB W' p F' lp') (hF : ∀ k, F' k → F k ∨ W.heap.size ≤ k) (ho : Off F W W') : TwoBins PB w W' p F' lp' B v lr := by
  refine ⟨h.below.trans (ho.below h.below.size (fun k hk hf => by have := h.pnew k hf; omega)), hp, h.rb.off ho (fun k hk hf => h.apart k hf hk), fun k hk hr => ?_, fun k hk => ?_, h.rnew⟩
  · rcases hF k hk with hk | hk
    · exact h.apart k hk hr
    · have := h.rb.lt hr; omega
  · rcases hF k hk with hk | hk
    · exact h.pnew k hk
    · exact Nat.le_trans h.below.size hk
theorem TwoBins.doc {a : Nat → Addr} {Env : World → Prop} {PB : PBin} (S : BinSpec a Env PB) {w W W' : World} {p : Addr} {F : Nat → Prop} {lp : List Hd} {B : Nat} {v v' : Value} {lr lr' : List Hd} (h : TwoBins PB w W p F lp B v lr) (hr : RBin W' B v' lr') (hv : ∀ k, v'.ownBlock = some k → v.ownBlock = some k ∨ W.heap.size ≤ k) (ho : Off (RBin.Of B v) W W') : TwoBins PB w W' p F lp B v' lr' := by
  have hO : ∀ k, RBin.Of B v' k → RBin.Of B v k ∨ W.heap.size ≤ k := fun k hk => by
    rcases hk with rfl | hk
    · exact .inl (.inl rfl)
    · exact (hv k hk).imp .inr id
  refine ⟨h.below.trans (ho.below h.below.size (fun k hk hf => by have := h.rnew k hf; omega)), S.off h.pb ho h.apart, hr, fun k hk hr => ?_, h.pnew, fun k hk => ?_⟩
  · rcases hO k hr with hr | hr
    · exact h.apart k hk hr
    · have := S.lt h.pb k hk; omega
  · rcases hO k hk with hk | hk
    · exact h.rnew k hk
    · exact Nat.le_trans h.below.size hk
end Go.Proofs.YtcbcjefefmbccaaDoor
