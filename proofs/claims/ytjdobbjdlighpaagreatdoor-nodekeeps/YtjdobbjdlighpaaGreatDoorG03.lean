/-
  Own text. Sums and IDs by contracts: print.More, Of, ID, Less and the document's PrintFrom, PrintOf, IDOf, IsLess.
  Own text. Bins as lists of pieces, pure: find, put, drop, sweep, size; how pieces lie in cells.
  Own text. What every bin keeps, pure: the order, the lengths, IDs of the texts, uses within a bound; find in a list that is in order.
  Own text. Memory that is followed through calls: new blocks, blocks that hold what they held (Blk), what lies between two block numbers (SameIn).
  Own text. How pieces lie in memory: slices of pieces (HeldsAt, HeldsIn); the document's bin (RBin); worlds that turn in some blocks alone (Off).
  Own text. What the program's package bin is to answer, as contracts (BinSpec), over what the world holds (Env) and an abstract bin in memory (PB: the pointer, the bin's own blocks, its pieces in order); two bins side by side (TwoBins); binned.
  Own text. The program's bins: a map by IDs of pieces, its kit (idPieces); a bin in memory (PBin0): a block with a map's place, and the map.
  Own text. The sentinels that package bin names, as the world holds them: less than ErrW (which has all twelve, and errors' handle).
  Own text. sort.Slice where 'less' may lay blocks of its own (it calls a function that takes structs): what 'less' and 'swap' must do (Srt), over any predicate on a world and what the row holds there; worlds on the way (SrtAt); insertionSort_func.
-/
import Derived.Test.YtjdobbjdlighpaaGreatDoorChecked
import Derived.Test.YtjdobbjdlighpaaGreatDoorG02
import Derived.WalkKit
import Derived.WalkSpells
import Derived.WalkLawsBesides
import Derived.Outline
import Derived.Laws.BitsAllLaws
import Derived.Deep.QuietTactic
import Derived.BigQuiet
import Derived.Below
import Derived.RangeFuncRecord
import Derived.DeepKeys4
import Derived.Shelf.SlSortFuncK.WholeK
import Derived.Maps.RangeWalk
namespace Go.Proofs.YtjdobbjdlighpaaGreatDoor
open Go.RowKit

theorem take_snoc (s : ByteArray) (k : Nat) (h : k < s.size) : s.data.toList.take (k + 1) = s.data.toList.take k ++ [s[k]] := by
  rw [List.take_succ_eq_append_getElem (by simpa using h)]; rfl
theorem ret_int {k : IntKind} {a b : Int} (h : a = b) : Ending.returned (.int k a) = .returned (.int k b) := by rw [h]
theorem val_int {k : IntKind} {a b : Int} (h : a = b) : Value.int k a = .int k b := by rw [h]

/- One step as the walk writes it. -/
theorem step_walk (n : Nat) (c : UInt8) (hn : n < 4294967296) : bits .xor .u32 (n : Int) ((c.toNat : Int) % 4294967296) * 16777619 % 4294967296 = ((pstep n c : Nat) : Int) := by
  have hc := byte_lt32 c
  rw [show ((c.toNat : Int) % 4294967296) = ((c.toNat : Nat) : Int) by omega, u32_xor_nat n c.toNat hn hc]
  unfold pstep
  rw [Int.natCast_emod, Int.natCast_mul]
  rfl

theorem i64_xor_nat (a b : Nat) (ha : a < 4294967296) (hb : b < 4294967296) : bits .xor .i64 (a : Int) (b : Int) = ((a ^^^ b : Nat) : Int) := by
  have hx := xor_lt32 ha hb
  have e64 : IntKind.i64.bits = 64 := rfl
  have p64 : (2 : Nat) ^ 64 = 18446744073709551616 := by decide
  have ha' : a % 2 ^ IntKind.i64.bits = a := Nat.mod_eq_of_lt (by rw [e64, p64]; omega)
  have hb' : b % 2 ^ IntKind.i64.bits = b := Nat.mod_eq_of_lt (by rw [e64, p64]; omega)
  simp only [bits, BitVec.ofInt_natCast, BitVec.toNat_xor, BitVec.toNat_ofNat, ha', hb']
  rw [IntKind.wrap_i64]
  omega
theorem step_walk64 (n : Nat) (c : UInt8) (hn : n < 4294967296) : (wrap64 (bits .xor .i64 (n : Int) (wrap64 (c.toNat : Int)) * 16777619)).tmod 4294967296 = ((pstep n c : Nat) : Int) := by
  have hc := byte_lt32 c
  have hx := xor_lt32 hn hc
  rw [IntWalk.wrap64_in (c.toNat : Int) (by omega), i64_xor_nat n c.toNat hn hc, IntWalk.wrap64_in _ (by omega)]
  unfold pstep
  rw [Int.tmod_eq_emod_of_nonneg (by omega), Int.natCast_emod, Int.natCast_mul]
  rfl

theorem more_any (n : Nat) (hn : n < 4294967296) (s : ByteArray) (w : World) (hs : s.size ≤ maxLen) :
    Calls Tryz.prog 98 #[.int .u32 n, .string s] w fun e w' => e = .returned (.int .u32 (pmore n s.data.toList : Nat)) ∧ w' = w := by
  unfold maxLen at hs
  go_enter Tryz.func98, Tryz.ntmps98
  go_wp2
  go_loop [0, 8] (fun q i => ∃ k : Nat, k ≤ s.size ∧ i = .int .i64 k ∧ q = .int .u32 (pmore n (s.data.toList.take k) : Nat)) (fun _ i => s.size - (intOf i).toNat)
  case atStart => exact ⟨0, Nat.zero_le _, rfl, by simp [pmore_nil]⟩
  case round =>
    obtain ⟨k, hk, rfl, rfl⟩ := hrel
    by_cases hlt : k < s.size
    · have hst := step_walk (pmore n (s.data.toList.take k)) s[k] (pmore_lt n hn _)
      rw [← pmore_snoc, ← take_snoc s k hlt] at hst
      have HS := hst
      clear hst
      generalize pmore n (s.data.toList.take k) = m at *
      have HS' : Hid (bits .xor .u32 (m : Int) ((s[k].toNat : Int) % 4294967296) * 16777619 % 4294967296 = ((pmore n (s.data.toList.take (k + 1)) : Nat) : Int)) := HS
      clear HS
      go_wp2
      go_round
      case rel => exact ⟨k + 1, by omega, by go_num, by rw [HS'.out]⟩
      case measure => simp [intOf]; omega
    · go_wp2
      go_ret
      exact ⟨ret_int (by rw [List.take_of_length_le (by simp; omega)]), rfl⟩
theorem of_any (s : ByteArray) (w : World) (hs : s.size ≤ maxLen) :
    Calls Tryz.prog 53 #[.string s] w fun e w' => e = .returned (.int .u32 (pmore 2166136261 s.data.toList : Nat)) ∧ w' = w := by
  go_enter Tryz.func53, Tryz.ntmps53
  go_wp2_with fail
  refine (more_any 2166136261 (by decide) s _ hs).mono ?_
  rintro e w' ⟨rfl, rfl⟩
  go_wp2_with fail
  go_ret
  exact ⟨rfl, rfl⟩

/- An ID as a value. -/
abbrev idV (n l : Int) : Value := .agg #[.int .u32 n, .int .i64 l]

theorem id_any (s : ByteArray) (w : World) (hs : s.size ≤ maxLen) :
    Calls Tryz.prog 17 #[.string s] w fun e w' => e = .returned (idV (pmore 2166136261 s.data.toList : Nat) s.size) ∧ Below w.heap.size w w' := by
  have hs' := hs
  unfold maxLen at hs'
  go_enter Tryz.func17, Tryz.ntmps17
  go_wp2_with fail
  refine (of_any s _ hs).mono ?_
  rintro e w' ⟨rfl, rfl⟩
  go_wp2_with fail
  exact bodyPost_ret (v := idV (pmore 2166136261 s.data.toList : Nat) s.size) (by simp [results, Tryz.results17, go_sem]) rfl ⟨rfl, (Below.refl _ _).alloc (Nat.le_refl _) _⟩
theorem printFrom_any (n : Nat) (hn : n < 4294967296) (s : ByteArray) (w : World) (hs : s.size ≤ maxLen) :
    Calls Tryz.prog 111 #[.int .u32 n, .string s] w fun e w' => e = .returned (.int .u32 (pmore n s.data.toList : Nat)) ∧ w' = w := by
  unfold maxLen at hs
  go_enter Tryz.func111, Tryz.ntmps111
  go_wp2
  go_loop [5, 6] (fun q i => ∃ k : Nat, k ≤ s.size ∧ i = .int .i64 k ∧ q = .int .i64 (pmore n (s.data.toList.take k) : Nat)) (fun _ i => s.size - (intOf i).toNat)
  case atStart => exact ⟨0, Nat.zero_le _, rfl, by simp [pmore_nil]⟩
  case round =>
    obtain ⟨k, hk, rfl, rfl⟩ := hrel
    have hml := pmore_lt n hn (s.data.toList.take k)
    by_cases hlt : k < s.size
    · have hst := step_walk64 (pmore n (s.data.toList.take k)) s[k] hml
      rw [← pmore_snoc, ← take_snoc s k hlt] at hst
      generalize pmore n (s.data.toList.take k) = m at *
      have HS : Hid ((wrap64 (bits .xor .i64 (m : Int) (wrap64 (s[k].toNat : Int)) * 16777619)).tmod 4294967296 = ((pmore n (s.data.toList.take (k + 1)) : Nat) : Int)) := hst
      clear hst
      go_wp2
      go_round
      case rel => exact ⟨k + 1, by omega, by go_num, by rw [HS.out]⟩
      case measure => simp [intOf]; omega
    · go_wp2
      go_ret
      exact ⟨ret_int (by rw [List.take_of_length_le (by simp; omega)]), rfl⟩
theorem printOf_any (s : ByteArray) (w : World) (hs : s.size ≤ maxLen) :
    Calls Tryz.prog 67 #[.string s] w fun e w' => e = .returned (.int .u32 (pmore 2166136261 s.data.toList : Nat)) ∧ w' = w := by
  go_enter Tryz.func67, Tryz.ntmps67
  go_wp2_with fail
  refine (printFrom_any 2166136261 (by decide) s _ hs).mono ?_
  rintro e w' ⟨rfl, rfl⟩
  go_wp2_with fail
  go_ret
  exact ⟨rfl, rfl⟩
theorem idOf_any (s : ByteArray) (w : World) (hs : s.size ≤ maxLen) :
    Calls Tryz.prog 66 #[.string s] w fun e w' => e = .returned (idV (pmore 2166136261 s.data.toList : Nat) s.size) ∧ Below w.heap.size w w' := by
  have hs' := hs
  unfold maxLen at hs'
  go_enter Tryz.func66, Tryz.ntmps66
  go_wp2_with fail
  refine (printOf_any s _ hs).mono ?_
  rintro e w' ⟨rfl, rfl⟩
  go_wp2_with fail
  exact bodyPost_ret (v := idV (pmore 2166136261 s.data.toList : Nat) s.size) (by simp [results, Tryz.results66, go_sem]) rfl ⟨rfl, (Below.refl _ _).alloc (Nat.le_refl _) _⟩
theorem less_any (a b c d : Int) (w : World) :
    Calls Tryz.prog 16 #[idV a b, idV c d] w fun e w' => e = .returned (.bool (if a = c then decide (b < d) else decide (a < c))) ∧ Below w.heap.size w w' := by
  by_cases h : a = c
  · subst h
    go_enter Tryz.func16, Tryz.ntmps16
    go_wp2
    go_ret
    exact ⟨by simp, ((Below.refl _ _).alloc (Nat.le_refl _) _).alloc (by simp) _⟩
  · have h' : (a != c) = true := by simpa using h
    go_enter Tryz.func16, Tryz.ntmps16
    go_wp2
    go_ret
    exact ⟨by simp, ((Below.refl _ _).alloc (Nat.le_refl _) _).alloc (by simp) _⟩
theorem isLess_any (a b c d : Int) (w : World) :
    Calls Tryz.prog 73 #[idV a b, idV c d] w fun e w' => e = .returned (.bool (if a = c then decide (b < d) else decide (a < c))) ∧ Below w.heap.size w w' := by
  by_cases h : a = c
  · subst h
    go_enter Tryz.func73, Tryz.ntmps73
    go_wp2
    go_ret
    exact ⟨by simp, ((Below.refl _ _).alloc (Nat.le_refl _) _).alloc (by simp) _⟩
  · have h' : (a != c) = true := by simpa using h
    go_enter Tryz.func73, Tryz.ntmps73
    go_wp2
    go_ret
    exact ⟨by simp, ((Below.refl _ _).alloc (Nat.le_refl _) _).alloc (by simp) _⟩
end Go.Proofs.YtjdobbjdlighpaaGreatDoor
namespace Go.Proofs.YtjdobbjdlighpaaGreatDoor
open Go.RowKit

/- A piece of a bin: its ID, how often it is used, its text. -/
/- An ID whose numbers are such of their types. -/
def WfID (x : Nat × Int) : Prop := x.1 < 4294967296 ∧ -9223372036854775808 ≤ x.2 ∧ x.2 ≤ 9223372036854775807
abbrev Hd := (Nat × Int) × Int × List UInt8
abbrev heldV (h : Hd) : Value := .agg #[.int .u32 (h.1.1 : Nat), .int .i64 h.1.2, .int .i64 h.2.1, .string ⟨h.2.2.toArray⟩]
def heldCells : List Hd → List Value
  | [] => []
  | h :: r => .int .u32 (h.1.1 : Nat) :: .int .i64 h.1.2 :: .int .i64 h.2.1 :: .string ⟨h.2.2.toArray⟩ :: heldCells r
theorem heldCells_append : ∀ (a b : List Hd), heldCells (a ++ b) = heldCells a ++ heldCells b
  | [], _ => rfl
  | x :: r, b => by rw [List.cons_append, heldCells, heldCells_append r b, heldCells]; rfl
theorem heldCells_length : ∀ (a : List Hd), (heldCells a).length = a.length * 4
  | [] => rfl
  | x :: r => by rw [heldCells, List.length_cons, List.length_cons, List.length_cons, List.length_cons, heldCells_length r, List.length_cons]; omega
theorem heldCells_at : ∀ (a : List Hd) (i : Nat) (h : i < a.length), (heldCells a)[i * 4]? = some (.int .u32 (a[i].1.1 : Nat)) ∧ (heldCells a)[i * 4 + 1]? = some (.int .i64 a[i].1.2) ∧ (heldCells a)[i * 4 + 2]? = some (.int .i64 a[i].2.1) ∧ (heldCells a)[i * 4 + 3]? = some (.string ⟨a[i].2.2.toArray⟩)
  | x :: r, 0, _ => ⟨rfl, rfl, rfl, rfl⟩
  | x :: r, i + 1, h => by
    have := heldCells_at r i (by simpa using h)
    rw [show (i + 1) * 4 = i * 4 + 1 + 1 + 1 + 1 by omega]
    exact this
theorem heldCells_one (l : List Hd) : ∀ u ∈ heldCells l, u.oneCell' = true := by
  induction l with
  | nil => simp [heldCells]
  | cons x r ih =>
    intro u hu
    simp only [heldCells, List.mem_cons] at hu
    rcases hu with rfl | rfl | rfl | rfl | hu
    · rfl
    · rfl
    · rfl
    · rfl
    · exact ih u hu

/- Where a piece is. -/
def hFind : List Hd → Nat × Int → Option Nat
  | [], _ => none
  | h :: r, x => if h.1 = x then some 0 else (hFind r x).map (· + 1)
def findI (l : List Hd) (x : Nat × Int) : Int := match hFind l x with | some k => (k : Int) | none => -1
theorem hFind_at : ∀ (l : List Hd) (x : Nat × Int) (k : Nat) (h : k < l.length), (∀ j (hj : j < l.length), j < k → l[j].1 ≠ x) → l[k].1 = x → hFind l x = some k
  | [], _, _, h, _, _ => by simp at h
  | y :: r, x, 0, _, _, he => by
    have he' : y.1 = x := he
    rw [hFind, if_pos he']
  | y :: r, x, k + 1, h, ha, he => by
    have h0 : y.1 ≠ x := ha 0 (by simp) (by omega)
    rw [hFind, if_neg h0, hFind_at r x k (by simpa using h) (fun j hj hk => by have := ha (j + 1) (by simpa using hj) (by omega); simpa using this) (by simpa using he)]
    rfl
theorem hFind_none : ∀ (l : List Hd) (x : Nat × Int), (∀ j (hj : j < l.length), l[j].1 ≠ x) → hFind l x = none
  | [], _, _ => rfl
  | y :: r, x, ha => by
    have h0 : y.1 ≠ x := ha 0 (by simp)
    rw [hFind, if_neg h0, hFind_none r x (fun j hj => by have := ha (j + 1) (by simpa using hj); simpa using this)]
    rfl
theorem hFind_some : ∀ {l : List Hd} {x : Nat × Int} {k : Nat}, hFind l x = some k → ∃ h : k < l.length, l[k].1 = x
  | [], _, _, h => by cases h
  | y :: r, x, k, h => by
    rw [hFind] at h
    split at h
    · rename_i he
      cases h
      exact ⟨by simp, he⟩
    · cases hr : hFind r x with
      | none => rw [hr] at h; cases h
      | some j =>
        rw [hr] at h
        cases h
        obtain ⟨hj, he⟩ := hFind_some hr
        exact ⟨by simpa using hj, by simpa using he⟩
theorem hFind_not : ∀ {l : List Hd} {x : Nat × Int}, hFind l x = none → ∀ h ∈ l, h.1 ≠ x
  | [], _, _, _, hm => by cases hm
  | y :: r, x, h, z, hm => by
    rw [hFind] at h
    split at h
    · cases h
    · rename_i hne
      cases hr : hFind r x with
      | some j => rw [hr] at h; cases h
      | none =>
        rcases List.mem_cons.1 hm with rfl | hm
        · exact hne
        · exact hFind_not hr z hm
/- Where it comes by its ID. -/
def hPlace : List Hd → Nat × Int → Nat
  | [], _ => 0
  | h :: r, x => if lessB h.1 x = true then hPlace r x + 1 else 0
theorem hPlace_le : ∀ (l : List Hd) (x : Nat × Int), hPlace l x ≤ l.length
  | [], _ => Nat.le_refl _
  | h :: r, x => by
    rw [hPlace]
    split
    · have := hPlace_le r x; simp; omega
    · simp
theorem hPlace_at : ∀ (l : List Hd) (x : Nat × Int) (k : Nat), k ≤ l.length → (∀ j (hj : j < l.length), j < k → lessB l[j].1 x = true) → (∀ h : k < l.length, lessB l[k].1 x = false) → hPlace l x = k
  | [], _, k, h, _, _ => by simp at h; simp [hPlace, h]
  | y :: r, x, 0, _, _, he => by
    have he' : lessB y.1 x = false := he (by simp)
    rw [hPlace, he']
    rfl
  | y :: r, x, k + 1, h, ha, he => by
    have h0 : lessB y.1 x = true := ha 0 (by simp) (by omega)
    rw [hPlace, if_pos h0, hPlace_at r x k (by simpa using h) (fun j hj hk => by have := ha (j + 1) (by simpa using hj) (by omega); simpa using this) (fun h' => by have := he (by simpa using h'); simpa using this)]
def hIns (l : List Hd) (h : Hd) : List Hd := l.take (hPlace l h.1) ++ h :: l.drop (hPlace l h.1)
def hUse (d : Int) (h : Hd) : Hd := (h.1, h.2.1 + d, h.2.2)
def hPut (l : List Hd) (s : List UInt8) : ((Nat × Int) × Bool × Int) × List Hd :=
  if s.length < 1 ∨ 64 < s.length then (((0, 0), false, 2), l) else
    match hFind l (idOfL s) with
    | some k => if (l[k]?.map (·.2.2)) = some s then ((idOfL s, false, 0), l.modify k (hUse 1)) else (((0, 0), false, 10), l)
    | none => if 250 ≤ l.length then (((0, 0), false, 7), l) else ((idOfL s, true, 0), hIns l (idOfL s, 1, s))
def hDrop (l : List Hd) (x : Nat × Int) : Int × List Hd :=
  match hFind l x with
  | some k => if (l[k]?.map (·.2.1)) = some 0 then (11, l) else (0, l.modify k (hUse (-1)))
  | none => (5, l)
def unused (h : Hd) : Bool := decide (h.2.1 = 0)
def hSize (l : List Hd) : Int := (l.map (·.1.2)).sum
def hSweep (l : List Hd) : Int × List Hd := (hSize (l.filter unused), l.filter (fun h => !unused h))
theorem hSize_snoc (l : List Hd) (k : Nat) (h : k < l.length) : hSize (l.take (k + 1)) = hSize (l.take k) + l[k].1.2 := by
  rw [List.take_succ_eq_append_getElem h, hSize, List.map_append, List.sum_append]
  simp [hSize]
theorem hSize_bound : ∀ (l : List Hd) (b : Int), 0 ≤ b → (∀ h ∈ l, 0 ≤ h.1.2 ∧ h.1.2 ≤ b) → 0 ≤ hSize l ∧ hSize l ≤ l.length * b
  | [], b, _, _ => by simp [hSize]
  | x :: r, b, hb, ha => by
    have h1 := hSize_bound r b hb (fun h hm => ha h (List.mem_cons_of_mem _ hm))
    have h2 := ha x (List.mem_cons_self ..)
    have e : hSize (x :: r) = x.1.2 + hSize r := by simp [hSize]
    rw [e, List.length_cons]
    have e2 : ((r.length + 1 : Nat) : Int) * b = r.length * b + b := by push_cast; rw [Int.add_mul, Int.one_mul]
    omega
end Go.Proofs.YtjdobbjdlighpaaGreatDoor
namespace Go.Proofs.YtjdobbjdlighpaaGreatDoor

theorem lessB_trans {a b c : Nat × Int} (h1 : lessB a b = true) (h2 : lessB b c = true) : lessB a c = true := by
  rw [lessB_iff] at *
  omega
theorem lessB_irrefl (a : Nat × Int) : lessB a a = false := by
  cases h : lessB a a with
  | false => rfl
  | true => rw [lessB_iff] at h; omega
theorem lessB_flip {a b : Nat × Int} (h : lessB a b = false) (hn : a ≠ b) : lessB b a = true := by
  rw [lessB_iff]
  have h' : ¬ (a.1 < b.1 ∨ (a.1 = b.1 ∧ a.2 < b.2)) := fun e => by rw [← lessB_iff, h] at e; cases e
  have h2 : ¬ (a.1 = b.1 ∧ a.2 = b.2) := fun e => hn (Prod.ext e.1 e.2)
  omega
theorem lessB_ne {a b : Nat × Int} (h : lessB a b = true) : a ≠ b := fun e => by subst e; rw [lessB_irrefl] at h; cases h

def Rise (l : List Hd) : Prop := l.Pairwise (fun a b => lessB a.1 b.1 = true)
structure BinOk (U : Int) (l : List Hd) : Prop where
  many : l.length ≤ 250
  each : ∀ h ∈ l, h.1 = idOfL h.2.2 ∧ (1 ≤ h.2.2.length ∧ h.2.2.length ≤ 64) ∧ 0 ≤ h.2.1 ∧ h.2.1 ≤ U
  rise : Rise l
theorem BinOk.nil (U : Int) : BinOk U [] := ⟨by simp, (fun h hm => by simp at hm), List.Pairwise.nil⟩
theorem BinOk.mono {U V : Int} {l : List Hd} (h : BinOk U l) (hv : U ≤ V) : BinOk V l := ⟨h.many, fun x hx => by obtain ⟨a, b, c, d⟩ := h.each x hx; exact ⟨a, b, c, by omega⟩, h.rise⟩
theorem BinOk.lens {U : Int} {l : List Hd} (h : BinOk U l) : ∀ x ∈ l, 0 ≤ x.1.2 ∧ x.1.2 ≤ 64 := fun x hx => by
  obtain ⟨a, b, _⟩ := h.each x hx
  rw [a]
  simp only [idOfL]
  omega
theorem BinOk.uses {U V : Int} {l : List Hd} (h : BinOk U l) (hv : U ≤ V) : ∀ x ∈ l, 0 ≤ x.2.1 ∧ x.2.1 ≤ V := fun x hx => by
  obtain ⟨_, _, a, b⟩ := h.each x hx
  omega

theorem take_place : ∀ (l : List Hd) (x : Nat × Int), ∀ h ∈ l.take (hPlace l x), lessB h.1 x = true
  | [], _, h, hm => by simp at hm
  | y :: r, x, h, hm => by
    rw [hPlace] at hm
    split at hm
    · rename_i hy
      rw [List.take_succ_cons] at hm
      rcases List.mem_cons.1 hm with rfl | hm
      · exact hy
      · exact take_place r x h hm
    · simp at hm
theorem drop_place : ∀ (l : List Hd) (x : Nat × Int), Rise l → (∀ h ∈ l, h.1 ≠ x) → ∀ h ∈ l.drop (hPlace l x), lessB x h.1 = true
  | [], _, _, _, h, hm => by simp at hm
  | y :: r, x, hr, hn, h, hm => by
    rw [hPlace] at hm
    obtain ⟨hy, hr'⟩ := List.pairwise_cons.1 hr
    split at hm
    · rw [List.drop_succ_cons] at hm
      exact drop_place r x hr' (fun z hz => hn z (List.mem_cons_of_mem _ hz)) h hm
    · rename_i hnl
      have h1 : lessB x y.1 = true := lessB_flip (by simpa using hnl) (hn y (List.mem_cons_self ..))
      rw [List.drop_zero] at hm
      rcases List.mem_cons.1 hm with rfl | hm
      · exact h1
      · exact lessB_trans h1 (hy h hm)
theorem hIns_rise {l : List Hd} {h : Hd} (hr : Rise l) (hn : ∀ x ∈ l, x.1 ≠ h.1) : Rise (hIns l h) := by
  unfold hIns Rise
  have ht := take_place l h.1
  have hd := drop_place l h.1 hr hn
  have hs : (l.take (hPlace l h.1) ++ l.drop (hPlace l h.1)).Pairwise (fun a b => lessB a.1 b.1 = true) := by rw [List.take_append_drop]; exact hr
  obtain ⟨h1, h2, h3⟩ := List.pairwise_append.1 hs
  refine List.pairwise_append.2 ⟨h1, List.pairwise_cons.2 ⟨hd, h2⟩, fun a ha b hb => ?_⟩
  rcases List.mem_cons.1 hb with rfl | hb
  · exact ht a ha
  · exact h3 a ha b hb
theorem hIns_mem {l : List Hd} {h x : Hd} (hx : x ∈ hIns l h) : x = h ∨ x ∈ l := by
  unfold hIns at hx
  rcases List.mem_append.1 hx with hx | hx
  · exact .inr (List.mem_of_mem_take hx)
  · rcases List.mem_cons.1 hx with rfl | hx
    · exact .inl rfl
    · exact .inr (List.mem_of_mem_drop hx)
theorem mem_hIns {l : List Hd} {h x : Hd} (hx : x = h ∨ x ∈ l) : x ∈ hIns l h := by
  unfold hIns
  rcases hx with rfl | hx
  · exact List.mem_append_right _ (List.mem_cons_self ..)
  · have : x ∈ l.take (hPlace l h.1) ++ l.drop (hPlace l h.1) := by rw [List.take_append_drop]; exact hx
    rcases List.mem_append.1 this with h1 | h1
    · exact List.mem_append_left _ h1
    · exact List.mem_append_right _ (List.mem_cons_of_mem _ h1)
theorem hIns_length (l : List Hd) (h : Hd) : (hIns l h).length = l.length + 1 := by
  have := hPlace_le l h.1
  unfold hIns
  simp
  omega
theorem modify_rise {l : List Hd} (k : Nat) (d : Int) (hr : Rise l) : Rise (l.modify k (hUse d)) := by
  unfold Rise at *
  rw [List.pairwise_iff_getElem] at *
  intro i j hi hj hij
  rw [List.length_modify] at hi hj
  have := hr i j hi hj hij
  rw [List.getElem_modify, List.getElem_modify]
  split <;> split <;> simpa [hUse] using this
theorem modify_mem {l : List Hd} {k : Nat} {d : Int} {x : Hd} (hx : x ∈ l.modify k (hUse d)) : ∃ y ∈ l, x = y ∨ (x = hUse d y ∧ ∃ h : k < l.length, l[k] = y) := by
  obtain ⟨i, hi, rfl⟩ := List.getElem_of_mem hx
  rw [List.length_modify] at hi
  rw [List.getElem_modify]
  split
  · rename_i e
    subst e
    exact ⟨l[k], List.getElem_mem _, .inr ⟨rfl, hi, rfl⟩⟩
  · exact ⟨l[i], List.getElem_mem _, .inl rfl⟩
theorem hPut_ok {U : Int} {l : List Hd} (h : BinOk U l) (s : List UInt8) (hU : 0 ≤ U) : BinOk (U + 1) (hPut l s).2 := by
  unfold hPut
  split
  · exact h.mono (by omega)
  · rename_i hs
    split
    · rename_i k hf
      split
      · refine ⟨by rw [List.length_modify]; exact h.many, fun x hx => ?_, modify_rise k 1 h.rise⟩
        obtain ⟨y, hy, e⟩ := modify_mem hx
        obtain ⟨a, b, c, d⟩ := h.each y hy
        rcases e with rfl | ⟨rfl, _⟩
        · exact ⟨a, b, c, by omega⟩
        · exact ⟨a, b, by show 0 ≤ y.2.1 + 1; omega, by show y.2.1 + 1 ≤ U + 1; omega⟩
      · exact h.mono (by omega)
    · rename_i hf
      split
      · exact h.mono (by omega)
      · rename_i hl
        refine ⟨by rw [hIns_length]; omega, fun x hx => ?_, hIns_rise h.rise (hFind_not hf)⟩
        rcases hIns_mem hx with rfl | hx
        · exact ⟨rfl, by show 1 ≤ s.length ∧ s.length ≤ 64; omega, by show (0 : Int) ≤ 1; decide, by show (1 : Int) ≤ U + 1; omega⟩
        · obtain ⟨a, b, c, d⟩ := h.each x hx
          exact ⟨a, b, c, by omega⟩
theorem hDrop_ok {U : Int} {l : List Hd} (h : BinOk U l) (x : Nat × Int) : BinOk U (hDrop l x).2 := by
  unfold hDrop
  split
  · rename_i k hf
    split
    · exact h
    · rename_i hz
      refine ⟨by rw [List.length_modify]; exact h.many, fun z hx => ?_, modify_rise k (-1) h.rise⟩
      obtain ⟨y, hy, e⟩ := modify_mem hx
      obtain ⟨a, b, c, d⟩ := h.each y hy
      rcases e with rfl | ⟨rfl, hk, rfl⟩
      · exact ⟨a, b, c, d⟩
      · have hne : l[k].2.1 ≠ 0 := fun e => hz (by rw [List.getElem?_eq_getElem hk, Option.map_some, e])
        exact ⟨a, b, by show 0 ≤ l[k].2.1 + -1; omega, by show l[k].2.1 + -1 ≤ U; omega⟩
  · exact h
theorem hSweep_ok {U : Int} {l : List Hd} (h : BinOk U l) : BinOk U (hSweep l).2 :=
  ⟨Nat.le_trans (List.length_filter_le _ _) h.many, fun x hx => h.each x (List.mem_filter.1 hx).1, h.rise.filter _⟩
/- In order: what is there is found. -/
theorem rise_inj {l : List Hd} (hr : Rise l) {x y : Hd} (hx : x ∈ l) (hy : y ∈ l) (e : x.1 = y.1) : x = y := by
  obtain ⟨i, hi, rfl⟩ := List.getElem_of_mem hx
  obtain ⟨j, hj, rfl⟩ := List.getElem_of_mem hy
  unfold Rise at hr
  rw [List.pairwise_iff_getElem] at hr
  rcases Nat.lt_trichotomy i j with h | h | h
  · exact (lessB_ne (hr i j hi hj h) e).elim
  · subst h; rfl
  · exact (lessB_ne (hr j i hj hi h) e.symm).elim
theorem hFind_mem {l : List Hd} {x : Hd} (hx : x ∈ l) : ∃ k, hFind l x.1 = some k := by
  cases h : hFind l x.1 with
  | some k => exact ⟨k, rfl⟩
  | none => exact (hFind_not h x hx rfl).elim
/- Two lists in order that hold the same pieces are one. -/
theorem rise_ext : ∀ {a b : List Hd}, Rise a → Rise b → (∀ x, x ∈ a ↔ x ∈ b) → a = b
  | [], [], _, _, _ => rfl
  | [], y :: r, _, _, h => by have := (h y).2 (List.mem_cons_self ..); cases this
  | x :: r, [], _, _, h => by have := (h x).1 (List.mem_cons_self ..); cases this
  | x :: r, y :: t, ha, hb, h => by
    obtain ⟨ha1, ha2⟩ := List.pairwise_cons.1 ha
    obtain ⟨hb1, hb2⟩ := List.pairwise_cons.1 hb
    have exy : x = y := by
      rcases List.mem_cons.1 ((h x).1 (List.mem_cons_self ..)) with e | hx
      · exact e
      · rcases List.mem_cons.1 ((h y).2 (List.mem_cons_self ..)) with e | hy
        · exact e.symm
        · have h1 := hb1 x hx
          have h2 := ha1 y hy
          have := lessB_trans h1 h2
          rw [lessB_irrefl] at this
          cases this
    subst exy
    congr 1
    refine rise_ext ha2 hb2 fun z => ⟨fun hz => ?_, fun hz => ?_⟩
    · rcases List.mem_cons.1 ((h z).1 (List.mem_cons_of_mem _ hz)) with e | hz'
      · subst e; exact (lessB_ne (ha1 z hz) rfl).elim
      · exact hz'
    · rcases List.mem_cons.1 ((h z).2 (List.mem_cons_of_mem _ hz)) with e | hz'
      · subst e; exact (lessB_ne (hb1 z hz) rfl).elim
      · exact hz'
end Go.Proofs.YtjdobbjdlighpaaGreatDoor
namespace Go.Proofs.YtjdobbjdlighpaaGreatDoor
open Go.RowKit

theorem frozen_alloc_lt' (w : World) (o : Obj) {b i : Nat} (h : b < w.heap.size) : (w.alloc o).frozen? ⟨b, i, none⟩ = w.frozen? ⟨b, i, none⟩ := World.frozen?_of_block (w := w) (Below.heap_alloc w o b h)
theorem new_cell (W : World) (cs : Array Value) (t : TypeId) {i B : Nat} {v : Value} (h : cs[i]? = some v) (hB : B = W.heap.size) : (W.alloc (.cells cs t)).cell? ⟨B, i, none⟩ = some v := by
  subst hB
  have h2 := World.alloc_heap_new W (.cells cs t)
  simp only [World.cell?, h2, h]
  rfl
theorem new_frozen (W : World) (cs : Array Value) (t : TypeId) {i B : Nat} (hB : B = W.heap.size) : (W.alloc (.cells cs t)).frozen? ⟨B, i, none⟩ = false := by
  subst hB
  have h2 := World.alloc_heap_new W (.cells cs t)
  simp only [World.frozen?, h2]
  simp
theorem grown_of_below {w w' : World} (h : Below w.heap.size w w') : w.grownBy w' none := ⟨h.os, h.tape, h.output, h.size, fun k hk _ => h.block k hk⟩
theorem below_of_grown {w w' : World} (h : w.grownBy w' none) : Below w.heap.size w w' := ⟨h.os, h.tape, h.output, h.size, fun k hk => h.block k hk (by simp)⟩
theorem row_below {w w' : World} {base : Nat} {e : TypeId} {size : Nat} {v : Value} {n : Nat} {xs : List Value} (h : w.ownsRow base e size v n xs) (hb : Below w.heap.size w w') : w'.ownsRow base e size v n xs := by
  refine h.kept (grown_of_below hb) ?_
  cases hv : v.ownBlock with
  | none => exact .inl rfl
  | some j => exact .inr (by simp)
/- Block B holds cs. -/
def Blk (W : World) (B : Nat) (cs : Array Value) (t : TypeId) : Prop := W.heap[B]? = some (.cells cs t (0, 0))
theorem Blk.lt {W : World} {B : Nat} {cs : Array Value} {t : TypeId} (h : Blk W B cs t) : B < W.heap.size := (Array.getElem?_eq_some_iff.1 h).1
theorem Blk.cell {W : World} {B : Nat} {cs : Array Value} {t : TypeId} (h : Blk W B cs t) {i : Nat} {u : Value} (hi : cs[i]? = some u) : W.cell? ⟨B, i, none⟩ = some u := by
  simp only [World.cell?, show W.heap[B]? = _ from h, hi]
  rfl
theorem Blk.frozen {W : World} {B : Nat} {cs : Array Value} {t : TypeId} (h : Blk W B cs t) (i : Nat) : W.frozen? ⟨B, i, none⟩ = false := by
  simp only [World.frozen?, show W.heap[B]? = _ from h]
  simp
theorem Blk.next {W W' : World} {B : Nat} {cs : Array Value} {t : TypeId} (h : Blk W B cs t) (hb : Below W.heap.size W W') : Blk W' B cs t := (hb.block B h.lt).trans h
theorem Blk.new (W : World) (cs : Array Value) (t : TypeId) : Blk (W.alloc (.cells cs t)) W.heap.size cs t := World.alloc_heap_new W _
theorem Blk.set {W : World} {B : Nat} {cs : Array Value} {t : TypeId} (h : Blk W B cs t) (i : Nat) (u : Value) : Blk (W.setCell ⟨B, i, none⟩ u) B (cs.setIfInBounds i u) t := by
  obtain ⟨hlt, hk⟩ := Array.getElem?_eq_some_iff.1 h
  show (W.heap.modify B _)[B]? = _
  rw [Array.getElem?_eq_getElem (by rw [Array.size_modify]; exact hlt), Array.getElem_modify_self, hk]
  simp
theorem Blk.other {W : World} {B : Nat} {cs : Array Value} {t : TypeId} (h : Blk W B cs t) {a : Addr} (ha : B ≠ a.block) (u : Value) : Blk (W.setCell a u) B cs t := (Below.heap_setCell W a u B ha).trans h
/- Between two block numbers nothing has turned. -/
def SameIn (lo hi : Nat) (W W' : World) : Prop := ∀ b, lo ≤ b → b < hi → W'.heap[b]? = W.heap[b]?
theorem SameIn.refl (lo hi : Nat) (W : World) : SameIn lo hi W W := fun _ _ _ => rfl
theorem SameIn.next {lo hi : Nat} {W W' W'' : World} (h : SameIn lo hi W W') (hs : hi ≤ W'.heap.size) (hb : Below W'.heap.size W' W'') : SameIn lo hi W W'' := fun b h1 h2 => (hb.block b (by omega)).trans (h b h1 h2)
theorem SameIn.setCell {lo hi : Nat} {W W' : World} (h : SameIn lo hi W W') {a : Addr} (ha : a.block < lo ∨ hi ≤ a.block) (u : Value) : SameIn lo hi W (W'.setCell a u) := fun b h1 h2 => (Below.heap_setCell W' a u b (by omega)).trans (h b h1 h2)
theorem Blk.below {W W' : World} {B n : Nat} {cs : Array Value} {t : TypeId} (h : Blk W B cs t) (hb : Below n W W') (hn : B < n) : Blk W' B cs t := (hb.block B hn).trans h
theorem SameIn.below {lo hi n : Nat} {W W' W'' : World} (h : SameIn lo hi W W') (hn : hi ≤ n) (hb : Below n W' W'') : SameIn lo hi W W'' := fun b h1 h2 => (hb.block b (by omega)).trans (h b h1 h2)
theorem SameIn.cell {lo hi : Nat} {W W' : World} (h : SameIn lo hi W W') {b : Nat} (h1 : lo ≤ b) (h2 : b < hi) (o : Nat) : W'.cell? ⟨b, o, none⟩ = W.cell? ⟨b, o, none⟩ := World.cell?_of_block (w := W) (h b h1 h2)
end Go.Proofs.YtjdobbjdlighpaaGreatDoor
namespace Go.Proofs.YtjdobbjdlighpaaGreatDoor
open Go.RowKit

/- Of the blocks that were there only those of F may have turned. -/
structure Off (F : Nat → Prop) (w w' : World) : Prop where
  os : w'.os = w.os
  tape : w'.tape = w.tape
  output : w'.output = w.output
  size : w.heap.size ≤ w'.heap.size
  block : ∀ k, k < w.heap.size → ¬ F k → w'.heap[k]? = w.heap[k]?
theorem Off.of_below {F : Nat → Prop} {w w' : World} (h : Below w.heap.size w w') : Off F w w' := ⟨h.os, h.tape, h.output, h.size, fun k hk _ => h.block k hk⟩
theorem Off.refl (F : Nat → Prop) (w : World) : Off F w w := ⟨rfl, rfl, rfl, Nat.le_refl _, fun _ _ _ => rfl⟩
theorem Off.trans {F G : Nat → Prop} {a b c : World} (h : Off F a b) (k : Off G b c) (hG : ∀ i, i < a.heap.size → G i → F i) : Off F a c :=
  ⟨k.os.trans h.os, k.tape.trans h.tape, k.output.trans h.output, Nat.le_trans h.size k.size, fun i hi hf => (k.block i (Nat.lt_of_lt_of_le hi h.size) (fun hg => hf (hG i hi hg))).trans (h.block i hi hf)⟩
theorem Off.mono {F G : Nat → Prop} {a b : World} (h : Off F a b) (hG : ∀ i, i < a.heap.size → F i → G i) : Off G a b := ⟨h.os, h.tape, h.output, h.size, fun i hi hg => h.block i hi (fun hf => hg (hG i hi hf))⟩
theorem Off.setCell {F : Nat → Prop} {a b : World} (h : Off F a b) {p : Addr} (hp : F p.block ∨ a.heap.size ≤ p.block) (u : Value) : Off F a (b.setCell p u) :=
  ⟨h.os, h.tape, h.output, by simpa [World.setCell] using h.size, fun k hk hf => (Below.heap_setCell b p u k (fun e => by subst e; rcases hp with hp | hp; exact hf hp; omega)).trans (h.block k hk hf)⟩
theorem Off.below {F : Nat → Prop} {w w' : World} {n : Nat} (h : Off F w w') (hn : n ≤ w.heap.size) (hF : ∀ k, k < n → ¬ F k) : Below n w w' := ⟨h.os, h.tape, h.output, h.size, fun k hk => h.block k (Nat.lt_of_lt_of_le hk hn) (hF k hk)⟩
theorem Off.blk {F : Nat → Prop} {w w' : World} (h : Off F w w') {B : Nat} {cs : Array Value} {t : TypeId} (hB : Blk w B cs t) (hn : ¬ F B) : Blk w' B cs t := (h.block B hB.lt hn).trans hB
theorem Off.row {F : Nat → Prop} {w w' : World} (h : Off F w w') {base : Nat} {e : TypeId} {size : Nat} {v : Value} {n : Nat} {xs : List Value} (ho : w.ownsRow base e size v n xs) (hn : ∀ k, v.ownBlock = some k → ¬ F k) : w'.ownsRow base e size v n xs := by
  obtain ⟨hl, ho⟩ := ho
  refine ⟨hl, ?_⟩
  rcases ho with ho | ⟨g, cap, cur, rfl, hg, hb, h1, h2, h3, h4⟩
  · exact .inl ho
  · exact .inr ⟨g, cap, cur, rfl, hg, (h.block g (Array.getElem?_eq_some_iff.1 hb).1 (hn g rfl)).trans hb, h1, h2, h3, h4⟩

/- v is a slice of pieces. -/
def HeldsAt (w : World) (v : Value) (l : List Hd) : Prop :=
  ∃ (p : Option Addr) (c : Nat), v = .slice p l.length c ∧ ∀ i (h : i < l.length), ∃ b o, p = some ⟨b, o, none⟩ ∧ (b < w.heap.size ∧ l.length ≤ c) ∧ w.cell? ⟨b, o + i * 4, none⟩ = some (.int .u32 (l[i].1.1 : Nat)) ∧ w.cell? ⟨b, o + i * 4 + 1, none⟩ = some (.int .i64 l[i].1.2) ∧
    w.cell? ⟨b, o + i * 4 + 2, none⟩ = some (.int .i64 l[i].2.1) ∧ w.cell? ⟨b, o + i * 4 + 3, none⟩ = some (.string ⟨l[i].2.2.toArray⟩)
theorem HeldsAt.below {w w' : World} {v : Value} {l : List Hd} (h : HeldsAt w v l) (hb : Below w.heap.size w w') : HeldsAt w' v l := by
  obtain ⟨p, c, rfl, h⟩ := h
  refine ⟨p, c, rfl, fun i hi => ?_⟩
  obtain ⟨b, o, hp, ⟨hlt, hc⟩, h1, h2, h3, h4⟩ := h i hi
  exact ⟨b, o, hp, ⟨Nat.lt_of_lt_of_le hlt hb.size, hc⟩, (hb.cell (p := ⟨b, o + i * 4, none⟩) hlt).trans h1, (hb.cell (p := ⟨b, o + i * 4 + 1, none⟩) hlt).trans h2, (hb.cell (p := ⟨b, o + i * 4 + 2, none⟩) hlt).trans h3, (hb.cell (p := ⟨b, o + i * 4 + 3, none⟩) hlt).trans h4⟩
theorem HeldsAt.off {F : Nat → Prop} {w w' : World} {v : Value} {l : List Hd} (h : HeldsAt w v l) (ho : Off F w w') (hn : ∀ k, v.ownBlock = some k → ¬ F k) : HeldsAt w' v l := by
  obtain ⟨p, c, rfl, h⟩ := h
  refine ⟨p, c, rfl, fun i hi => ?_⟩
  obtain ⟨b, o, rfl, ⟨hlt, hc⟩, h1, h2, h3, h4⟩ := h i hi
  have e : ∀ j, w'.cell? ⟨b, j, none⟩ = w.cell? ⟨b, j, none⟩ := fun j => World.cell?_of_block (w := w) (ho.block b hlt (hn b rfl))
  exact ⟨b, o, rfl, ⟨Nat.lt_of_lt_of_le hlt ho.size, hc⟩, (e _).trans h1, (e _).trans h2, (e _).trans h3, (e _).trans h4⟩
theorem HeldsAt.nil (w : World) : HeldsAt w (.slice none 0 0) [] := ⟨none, 0, rfl, fun i hi => by simp at hi⟩
theorem HeldsAt.of_row {w : World} {base : Nat} {e : TypeId} {v : Value} {l : List Hd} (h : w.ownsRow base e 4 v l.length (heldCells l)) : HeldsAt w v l := by
  obtain ⟨hl, h⟩ := h
  rcases h with ⟨rfl, h0⟩ | ⟨g, cap, cur, rfl, hg, hb, h1, h2, h3, h4⟩
  · exact ⟨none, 0, by rw [h0], fun i hi => by omega⟩
  · have hgl : g < w.heap.size := (Array.getElem?_eq_some_iff.1 hb).1
    have hc : ∀ j u, (heldCells l)[j]? = some u → w.cell? ⟨g, 0 + j, none⟩ = some u := fun j u hj => by
      have hjl : j < (heldCells l).length := (List.getElem?_eq_some_iff.1 hj).1
      have e1 : cur.toList[j]? = some u := by
        rw [← hj, ← h4, List.getElem?_take, if_pos (by omega)]
      rw [Nat.zero_add]
      simp only [World.cell?, hb]
      rw [← Array.getElem?_toList, e1]
      simp
    exact ⟨some ⟨g, 0, none⟩, cap, rfl, fun i hi => ⟨g, 0, rfl, ⟨hgl, h1⟩, hc _ _ (heldCells_at l i hi).1, hc _ _ (heldCells_at l i hi).2.1, hc _ _ (heldCells_at l i hi).2.2.1, hc _ _ (heldCells_at l i hi).2.2.2⟩⟩
/- The cells of a slice of pieces, one behind the other. -/
theorem heldCells_cells {W : World} {b o : Nat} {l : List Hd} (h : ∀ i (h : i < l.length), W.cell? ⟨b, o + i * 4, none⟩ = some (.int .u32 (l[i].1.1 : Nat)) ∧ W.cell? ⟨b, o + i * 4 + 1, none⟩ = some (.int .i64 l[i].1.2) ∧ W.cell? ⟨b, o + i * 4 + 2, none⟩ = some (.int .i64 l[i].2.1) ∧ W.cell? ⟨b, o + i * 4 + 3, none⟩ = some (.string ⟨l[i].2.2.toArray⟩)) :
    ∀ j u, (heldCells l)[j]? = some u → W.cell? ((⟨b, o, none⟩ : Addr).add j) = some u := by
  intro j u hj
  have hjl : j < (heldCells l).length := (List.getElem?_eq_some_iff.1 hj).1
  rw [heldCells_length] at hjl
  have hi : j / 4 < l.length := by omega
  have ha : (⟨b, o, none⟩ : Addr).add j = ⟨b, o + j, none⟩ := by unfold Addr.add; split <;> simp_all
  rw [ha]
  obtain ⟨e0, e1, e2, e3⟩ := heldCells_at l (j / 4) hi
  obtain ⟨h0, h1, h2, h3⟩ := h (j / 4) hi
  have : j % 4 = 0 ∨ j % 4 = 1 ∨ j % 4 = 2 ∨ j % 4 = 3 := by omega
  rcases this with hm | hm | hm | hm
  · rw [show j / 4 * 4 = j by omega] at e0 h0
    rw [h0, ← hj, e0]
  · rw [show j / 4 * 4 + 1 = j by omega] at e1
    rw [Nat.add_assoc, show j / 4 * 4 + 1 = j by omega] at h1
    rw [h1, ← hj, e1]
  · rw [show j / 4 * 4 + 2 = j by omega] at e2
    rw [Nat.add_assoc, show j / 4 * 4 + 2 = j by omega] at h2
    rw [h2, ← hj, e2]
  · rw [show j / 4 * 4 + 3 = j by omega] at e3
    rw [Nat.add_assoc, show j / 4 * 4 + 3 = j by omega] at h3
    rw [h3, ← hj, e3]

/- The document's bin: a block with a slice, and the slice's own row. -/
/- Its blocks. -/
def RBin.Of (B : Nat) (v : Value) (k : Nat) : Prop := k = B ∨ v.ownBlock = some k
theorem infoHeld : (Tryz.prog.info? 64).map (fun i => (i.zero, i.size, i.bytes)) = some (some (heldV ((0, 0), 0, [])), 4, 40) := by kernel_rfl
end Go.Proofs.YtjdobbjdlighpaaGreatDoor
namespace Go.Proofs.YtjdobbjdlighpaaGreatDoor
open Go.RowKit

def hGet (l : List Hd) (x : Nat × Int) : List UInt8 × Int := match hFind l x with | some k => ((l[k]?.map (·.2.2)).getD [], 0) | none => ([], 5)
abbrev PBin := World → Addr → (Nat → Prop) → List Hd → Prop
structure BinSpec (a : Nat → Addr) (Env : World → Prop) (PB : PBin) : Prop where
  stable : ∀ {w w' : World}, Env w → Below w.heap.size w w' → Env w'
  lt : ∀ {w : World} {p : Addr} {F : Nat → Prop} {l : List Hd}, PB w p F l → ∀ k, F k → k < w.heap.size
  off : ∀ {w w' : World} {p : Addr} {F G : Nat → Prop} {l : List Hd}, PB w p F l → Off G w w' → (∀ k, F k → ¬ G k) → PB w' p F l
  new : ∀ (w : World), Env w → Calls Tryz.prog 38 #[] w fun e w' => ∃ p F, e = .returned (.pointer (some p)) ∧ PB w' p F [] ∧ (∀ k, F k → w.heap.size ≤ k) ∧ Below w.heap.size w w'
  put : ∀ (s : ByteArray) (p : Addr) (F : Nat → Prop) (l : List Hd) (w : World), s.size ≤ 50000 → BinOk 1000000 l → Env w → PB w p F l → Calls Tryz.prog 39 #[.pointer (some p), .string s] w fun e w' => ∃ ev F', e = .returned (.tuple #[idV ((hPut l s.data.toList).1.1.1 : Nat) (hPut l s.data.toList).1.1.2, .bool (hPut l s.data.toList).1.2.1, ev]) ∧ ErrIn w.heap.size w' a ev ((hPut l s.data.toList).1.2.2, -1) ∧ PB w' p F' (hPut l s.data.toList).2 ∧ (∀ k, F' k → F k ∨ w.heap.size ≤ k) ∧ Off F w w'
  get : ∀ (x : Nat × Int) (p : Addr) (F : Nat → Prop) (l : List Hd) (w : World), WfID x → BinOk 1000000 l → Env w → PB w p F l → Calls Tryz.prog 79 #[.pointer (some p), idV (x.1 : Nat) x.2] w fun e w' => ∃ ev, e = .returned (.tuple #[.string ⟨(hGet l x).1.toArray⟩, ev]) ∧ ErrIn w.heap.size w' a ev ((hGet l x).2, -1) ∧ Below w.heap.size w w'
  drop : ∀ (x : Nat × Int) (p : Addr) (F : Nat → Prop) (l : List Hd) (w : World), WfID x → BinOk 1000000 l → Env w → PB w p F l → Calls Tryz.prog 93 #[.pointer (some p), idV (x.1 : Nat) x.2] w fun e w' => ∃ ev F', e = .returned ev ∧ ErrIn w.heap.size w' a ev ((hDrop l x).1, -1) ∧ PB w' p F' (hDrop l x).2 ∧ (∀ k, F' k → F k ∨ w.heap.size ≤ k) ∧ Off F w w'
  sweep : ∀ (p : Addr) (F : Nat → Prop) (l : List Hd) (w : World), BinOk 1000000 l → Env w → PB w p F l → Calls Tryz.prog 94 #[.pointer (some p)] w fun e w' => ∃ F', e = .returned (.int .i64 (hSweep l).1) ∧ PB w' p F' (hSweep l).2 ∧ (∀ k, F' k → F k ∨ w.heap.size ≤ k) ∧ Off F w w'
  size : ∀ (p : Addr) (F : Nat → Prop) (l : List Hd) (w : World), BinOk 1000000 l → Env w → PB w p F l → Calls Tryz.prog 42 #[.pointer (some p)] w fun e w' => e = .returned (.int .i64 (hSize l)) ∧ Below w.heap.size w w'
  copy : ∀ (p : Addr) (F : Nat → Prop) (l : List Hd) (w : World), BinOk 1000000 l → Env w → PB w p F l → Calls Tryz.prog 122 #[.pointer (some p)] w fun e w' => ∃ p' F', e = .returned (.pointer (some p')) ∧ PB w' p' F' l ∧ (∀ k, F' k → w.heap.size ≤ k) ∧ Below w.heap.size w w'
  all : ∀ (p : Addr) (F : Nat → Prop) (l : List Hd) (w : World), BinOk 1000000 l → Env w → PB w p F l → Calls Tryz.prog 43 #[.pointer (some p)] w fun e w' => ∃ v, e = .returned v ∧ HeldsAt w' v l ∧ Below w.heap.size w w'

theorem BinSpec.below {a : Nat → Addr} {Env : World → Prop} {PB : PBin} (S : BinSpec a Env PB) {w w' : World} {p : Addr} {F : Nat → Prop} {l : List Hd} (h : PB w p F l) (hb : Below w.heap.size w w') : PB w' p F l := S.off h (Off.of_below (F := fun _ => False) hb) (fun _ _ h => h)

/- The program's bin and the document's, side by side, in memory that is new since w. -/
end Go.Proofs.YtjdobbjdlighpaaGreatDoor
namespace Go.Proofs.YtjdobbjdlighpaaGreatDoor
open Go.RowKit Go.Maps

theorem Tryz.laidOut : laidOutB Tryz.prog = true := by kernel_rfl
theorem idRow : (40 : TypeId) < Tryz.prog.types.size := of_decide_eq_true (by kernel_rfl)
theorem idWide : (match Tryz.prog.underlying 40 with | some (.array _ _) | some (.struct _) => true | _ => false) = true := by rw [Tryz.underlying40]
set_option maxRecDepth 100000 in
theorem idDeep : Tryz.prog.keyTypeAt 2 40 = true := by kernel_rfl
set_option maxRecDepth 100000 in
theorem idLaw : WideMaps.KeyLaw Tryz.prog 40 := deep_law_laid Tryz.laidOut (m := 2) (Nat.le_of_ble_eq_true rfl) idRow idDeep idWide
theorem idKeyed : Keyed Tryz.prog 40 := Keyed.of_law idLaw
theorem idCellsK : Tryz.prog.cellsOf 40 = 2 := by kernel_rfl
theorem u32Cells : Tryz.prog.cellsOf 23 = 1 := by kernel_rfl
theorem intCells : Tryz.prog.cellsOf 3 = 1 := by kernel_rfl
theorem idKeyType : Tryz.prog.keyType 40 = true := by kernel_rfl
theorem typesSize : Tryz.prog.types.size = 308 := by kernel_rfl
theorem idFormed (a b : Value) : (Value.agg #[a, b]).formed Tryz.prog 40 = true := by simp [Value.formed, Tryz.underlying40, idCellsK]

theorem wf_u32 (n : Int) : (Lit.int .u32 n).wf = true ↔ 0 ≤ n ∧ n < 4294967296 := by
  show (decide (IntKind.u32.min ≤ n) && decide (n ≤ IntKind.u32.max)) = true ↔ _
  rw [show IntKind.u32.min = 0 from rfl, show IntKind.u32.max = 4294967295 from rfl, Bool.and_eq_true, decide_eq_true_eq, decide_eq_true_eq]
  omega
theorem wf_i64' (n : Int) : (Lit.int .i64 n).wf = true ↔ -9223372036854775808 ≤ n ∧ n ≤ 9223372036854775807 := by
  show (decide (IntKind.i64.min ≤ n) && decide (n ≤ IntKind.i64.max)) = true ↔ _
  rw [show IntKind.i64.min = -9223372036854775808 from rfl, show IntKind.i64.max = 9223372036854775807 from rfl, Bool.and_eq_true, decide_eq_true_eq, decide_eq_true_eq]
set_option maxRecDepth 100000 in
theorem u32Lits (d : Nat) (a : Value) (x : List Lit) (h : Tryz.prog.keyLits (d + 1) 23 [a] = some x) : ∃ n : Int, a = .int .u32 n ∧ (Lit.int .u32 n).wf = true ∧ x = [.int .u32 n] := by
  unfold Program.keyLits at h
  rw [Tryz.underlying23] at h
  cases a <;> simp at h
  obtain ⟨⟨rfl, hw⟩, rfl⟩ := h
  exact ⟨_, rfl, hw, rfl⟩
set_option maxRecDepth 100000 in
theorem intLits (d : Nat) (a : Value) (x : List Lit) (h : Tryz.prog.keyLits (d + 1) 3 [a] = some x) : ∃ n : Int, a = .int .i64 n ∧ (Lit.int .i64 n).wf = true ∧ x = [.int .i64 n] := by
  unfold Program.keyLits at h
  rw [Tryz.underlying3] at h
  cases a <;> simp at h
  obtain ⟨⟨rfl, hw⟩, rfl⟩ := h
  exact ⟨_, rfl, hw, rfl⟩
set_option maxRecDepth 100000 in
theorem idLits (d : Nat) (a b : Value) : Tryz.prog.keyLits (d + 1) 40 [a, b] = (Tryz.prog.keyLits d 23 [a]).bind fun x => (Tryz.prog.keyLits d 3 [b]).bind fun y => some (x ++ y) := by
  conv => lhs; unfold Program.keyLits
  rw [Tryz.underlying40]
  simp only [idCellsK]
  cases h1 : Tryz.prog.keyLits d 23 [a] <;> cases h2 : Tryz.prog.keyLits d 3 [b] <;> simp [u32Cells, intCells, h1, h2]
theorem idKey_eq (v0 v1 : Value) : keyOf Tryz.prog 40 (.agg #[v0, v1]) = (Tryz.prog.keyLits (308 + 1) 40 [v0, v1]).map fun ls => .string (keyBytes ls) := by
  unfold keyOf
  rw [Tryz.underlying40]
  simp only [idKeyType, idFormed, Bool.and_true, if_true, typesSize]
  rfl
set_option maxRecDepth 100000 in
theorem u32Lits_mk (d : Nat) (n : Int) (h : (Lit.int .u32 n).wf = true) : Tryz.prog.keyLits (d + 1) 23 [.int .u32 n] = some [.int .u32 n] := by
  unfold Program.keyLits
  rw [Tryz.underlying23]
  simp [h]
set_option maxRecDepth 100000 in
theorem intLits_mk (d : Nat) (n : Int) (h : (Lit.int .i64 n).wf = true) : Tryz.prog.keyLits (d + 1) 3 [.int .i64 n] = some [.int .i64 n] := by
  unfold Program.keyLits
  rw [Tryz.underlying3]
  simp [h]
theorem ntSucc : 308 = (308 - 1) + 1 := rfl
set_option maxRecDepth 100000 in
theorem idKey (x : Nat × Int) (h : WfID x) : ∃ kl, keyOf Tryz.prog 40 (idV (x.1 : Nat) x.2) = some kl := by
  obtain ⟨h1, h2⟩ := h
  refine ⟨.string (keyBytes [.int .u32 (x.1 : Nat), .int .i64 x.2]), ?_⟩
  rw [idKey_eq, idLits, ntSucc, u32Lits_mk _ _ ((wf_u32 _).2 (by omega)), intLits_mk _ _ ((wf_i64' _).2 h2)]
  rfl
set_option maxRecDepth 100000 in
theorem idInv (v : Value) (kl : Lit) (h : keyOf Tryz.prog 40 v = some kl) : ∃ x : Nat × Int, WfID x ∧ v = idV (x.1 : Nat) x.2 := by
  have hf : v.formed Tryz.prog 40 = true := by
    unfold keyOf at h
    rw [Tryz.underlying40] at h
    cases hv : v.formed Tryz.prog 40 with
    | true => rfl
    | false => simp [hv] at h
  obtain ⟨cs, rfl, hs⟩ : ∃ cs, v = .agg cs ∧ cs.size = 2 := by
    cases v <;> simp [Value.formed, Tryz.underlying40, idCellsK] at hf
    exact ⟨_, rfl, hf⟩
  obtain ⟨v0, v1, rfl⟩ : ∃ v0 v1, cs = #[v0, v1] := by
    obtain ⟨l⟩ := cs
    match l, hs with
    | [v0, v1], _ => exact ⟨v0, v1, rfl⟩
  rw [idKey_eq, idLits, ntSucc] at h
  cases h0 : Tryz.prog.keyLits (308 - 1 + 1) 23 [v0] with
  | none => rw [h0] at h; cases h
  | some a =>
    cases h1 : Tryz.prog.keyLits (308 - 1 + 1) 3 [v1] with
    | none => rw [h0, h1] at h; cases h
    | some b =>
      obtain ⟨n, rfl, hn, _⟩ := u32Lits _ _ _ h0
      obtain ⟨m, rfl, hm, _⟩ := intLits _ _ _ h1
      rw [wf_u32] at hn
      rw [wf_i64'] at hm
      have e : ((n.toNat : Nat) : Int) = n := by omega
      refine ⟨(n.toNat, m), ⟨by omega, hm⟩, ?_⟩
      simp only [e]

/- A piece as the map holds it. -/
abbrev pieceV (c : Int × List UInt8) : Value := .agg #[.string ⟨c.2.toArray⟩, .int .i64 c.1]
def unPiece : Value → Option (Int × List UInt8)
  | .agg cs => match cs.toList with
    | [.string s, .int .i64 u] => some (u, s.data.toList)
    | _ => none
  | _ => none
theorem unPiece_back (v : Value) (c : Int × List UInt8) (h : unPiece v = some c) : v = pieceV c := by
  unfold unPiece at h
  split at h
  next cs =>
    split at h
    next s u e =>
      cases h
      have : cs = #[Value.string s, Value.int .i64 u] := by rw [← Array.toArray_toList (xs := cs), e]
      rw [this]
    next => cases h
  next => cases h
def idPieces : MapKit Tryz.prog 40 (Nat × Int) (Int × List UInt8) where
  mkK x := idV (x.1 : Nat) x.2
  wf := WfID
  mkV := pieceV
  unV := unPiece
  K := idKeyed
  key := idKey
  inv := idInv
  inj x y e := by
    have e1 := Array.mk.inj (Value.agg.inj e)
    simp at e1
    exact Prod.ext (by omega) e1.2
  un _ := rfl
  back := unPiece_back

theorem pieceZero (w : World) : (zeroValue 137).run Tryz.prog w = .ok (pieceV (0, [])) w := by kernel_rfl

/- A bin of the program's in memory. -/
def PBin0 (w : World) (p : Addr) (F : Nat → Prop) (l : List Hd) : Prop :=
  ∃ B b, p = ⟨B, 0, none⟩ ∧ Blk w B #[.map (some b)] 135 ∧ idPieces.Of w b l ∧ B ≠ b ∧ F = fun k => k = B ∨ k = b
theorem PBin0.lt {w : World} {p : Addr} {F : Nat → Prop} {l : List Hd} (h : PBin0 w p F l) : ∀ k, F k → k < w.heap.size := by
  obtain ⟨B, b, rfl, hB, hb, _, rfl⟩ := h
  rintro k (rfl | rfl)
  · exact hB.lt
  · exact hb.lt
theorem PBin0.off {w w' : World} {p : Addr} {F G : Nat → Prop} {l : List Hd} (h : PBin0 w p F l) (ho : Off G w w') (hG : ∀ k, F k → ¬ G k) : PBin0 w' p F l := by
  obtain ⟨B, b, rfl, hB, hb, hne, rfl⟩ := h
  exact ⟨B, b, rfl, ho.blk hB (hG B (.inl rfl)), hb.moved (ho.block b hb.lt (hG b (.inr rfl))), hne, rfl⟩
theorem BinOk.wfs {U : Int} {l : List Hd} (h : BinOk U l) : ∀ x ∈ l, WfID x.1 := fun x hx => by
  obtain ⟨e, h1, _⟩ := h.each x hx
  rw [e]
  exact ⟨pmore_lt _ (by decide) _, by simp only [idOfL]; omega, by simp only [idOfL]; omega⟩
theorem errIn_sent (base : Nat) (w : World) (a : Nat → Addr) (k : Nat) (hk : k < 12) {c : Int} (hc : c = (k : Int) + 1) : ErrIn base w a (sentV a k) (c, -1) := .inr (.inl ⟨k, hk, rfl, by rw [hc]⟩)
theorem off_of_grown {w w' : World} {b : Nat} {F : Nat → Prop} (h : w.grownBy w' (some b)) (hF : F b) : Off F w w' := ⟨h.os, h.tape, h.output, h.size, fun k hk hf => h.block k hk (fun e => hf (by cases e; exact hF))⟩
/- A use more or less, as the map has it. -/
theorem modify_perm (d : Int) : ∀ (l : List Hd) (k : Nat) (hk : k < l.length), l.Pairwise (fun p q => p.1 ≠ q.1) → ((l[k].1, l[k].2.1 + d, l[k].2.2) :: l.filter (fun h => !decide (h.1 = l[k].1))).Perm (l.modify k (hUse d))
  | [], _, hk, _ => by simp at hk
  | y :: r, 0, _, hp => by
    obtain ⟨hy, _⟩ := List.pairwise_cons.1 hp
    have e : r.filter (fun h => !decide (h.1 = y.1)) = r := List.filter_eq_self.2 (fun h hm => by simp [Ne.symm (hy h hm)])
    show ((y.1, y.2.1 + d, y.2.2) :: List.filter (fun h => !decide (h.1 = y.1)) (y :: r)).Perm (hUse d y :: r)
    rw [List.filter_cons, if_neg (by simp), e]
    exact List.Perm.refl _
  | y :: r, k + 1, hk, hp => by
    obtain ⟨hy, hr⟩ := List.pairwise_cons.1 hp
    have hk' : k < r.length := by simpa using hk
    have ih := modify_perm d r k hk' hr
    have hne : y.1 ≠ r[k].1 := hy _ (List.getElem_mem hk')
    show ((r[k].1, r[k].2.1 + d, r[k].2.2) :: List.filter (fun h => !decide (h.1 = r[k].1)) (y :: r)).Perm (y :: r.modify k (hUse d))
    rw [List.filter_cons, if_pos (by simpa using hne)]
    exact (List.Perm.swap _ _ _).trans (ih.cons y)
end Go.Proofs.YtjdobbjdlighpaaGreatDoor
namespace Go.Proofs.YtjdobbjdlighpaaGreatDoor
open Go.RowKit

abbrev ErrG (w : World) (a : Nat → Addr) : Prop := ErrE [0, 1, 4, 6, 7, 8, 9, 10] w a
theorem ErrW.some {w : World} {a : Nat → Addr} (h : ErrW w a) : ErrG w a := h.on (by decide)
end Go.Proofs.YtjdobbjdlighpaaGreatDoor
namespace Go.Proofs.YtjdobbjdlighpaaGreatDoor
open Go.Shelf Go.RowKit Go.Lib Go.Sort
variable {P : Program} {ρ : Ren} {α : Type}

structure Srt [Inhabited α] (P : Program) (lt : α → α → Bool) (g : Nat) (lb : Array Value) (sf : Nat) (sb : Array Value) (blk n n0 : Nat) (I : World → Array α → Prop) : Prop where
  eg : ∀ args w, (callFunc g args).run P w = .ok (.enter g args) w
  blt : ∀ {W : World} {d : Array α}, I W d → blk < W.heap.size
  size : ∀ {W : World} {d : Array α}, I W d → d.size = n
  keep : ∀ {W W' : World} {d : Array α}, I W d → W.grownBy W' none → I W' d
  le : ∀ {W : World} {d : Array α}, I W d → n0 ≤ W.heap.size
  keepAt : ∀ {W W' : World} {d : Array α} {c : Nat}, I W d → n0 ≤ c → W.grownBy W' (some c) → I W' d
  less : ∀ {W : World} {d : Array α} (x y : Int) (i j : Nat), x = (i : Int) → y = (j : Int) → I W d → i < n → j < n → Calls P g (#[.int .i64 x, .int .i64 y] ++ lb) W fun e w' => e = .returned (.bool (lt d[i]! d[j]!)) ∧ W.grownBy w' none
  swap : ∀ {W : World} {d : Array α} (x y : Int) (i j : Nat), x = (i : Int) → y = (j : Int) → I W d → i < n → j < n → ∃ W', (callFunc sf (#[.int .i64 x, .int .i64 y] ++ sb)).run P W = .ok (.value (.tuple #[])) W' ∧ I W' (swp d i j) ∧ W.grownBy W' (some blk)

/- Since w0 only new blocks were laid and the row was turned; it holds d. -/
structure SrtAt (I : World → Array α → Prop) (blk : Nat) (w0 W : World) (d : Array α) : Prop where
  inv : I W d
  grown : w0.grownBy W (some blk)
theorem SrtAt.start {I : World → Array α → Prop} {blk : Nat} {w : World} {d : Array α} (h : I w d) : SrtAt I blk w w d := ⟨h, ⟨rfl, rfl, rfl, Nat.le_refl _, fun _ _ _ => rfl⟩⟩
variable {lt : α → α → Bool} {g : Nat} {lb : Array Value} {sf : Nat} {sb : Array Value} {blk n n0 : Nat} {I : World → Array α → Prop} {w0 W W' : World} {d d' : Array α}
theorem SrtAt.grow [Inhabited α] (S : Srt P lt g lb sf sb blk n n0 I) (h : SrtAt I blk w0 W d) (hg : W.grownBy W' none) : SrtAt I blk w0 W' d := ⟨S.keep h.inv hg, h.grown.andThen hg (fun j hj => by cases hj)⟩
theorem SrtAt.turn (h : SrtAt I blk w0 W d) (hi : I W' d') (hg : W.grownBy W' (some blk)) : SrtAt I blk w0 W' d' := ⟨hi, h.grown.andThen hg (fun _ hj => .inr hj)⟩
theorem grown_drewN (w : World) (q : Nat) : w.grownBy (w.drewN q) none := ⟨rfl, rfl, rfl, Nat.le_refl _, fun _ _ _ => rfl⟩
theorem SrtAt.drewN [Inhabited α] (S : Srt P lt g lb sf sb blk n n0 I) (h : SrtAt I blk w0 W d) (q : Nat) : SrtAt I blk w0 (W.drewN q) d := h.grow S (grown_drewN W q)
theorem SrtAt.alloc [Inhabited α] (S : Srt P lt g lb sf sb blk n n0 I) (h : SrtAt I blk w0 W d) (o : Obj) : SrtAt I blk w0 (W.alloc o) d := h.grow S (World.grownBy_alloc W o none)
/- What a block that is not the row's holds. -/
theorem SrtAt.cell (h : SrtAt I blk w0 W d) {a : Addr} {v : Value} (h0 : w0.cell? a = some v) (ha : a.block ≠ blk) (hl : a.block < w0.heap.size) : W.cell? a = some v :=
  (World.cell?_of_block (w := w0) (h.grown.block _ hl (fun e => ha (Option.some.inj e)))).trans h0
theorem SrtAt.box {w : World} {x y : Value} {t : TypeId} (h : SrtAt I blk (w.alloc (.cells #[x, y] t)) W d) (hb : blk < w.heap.size) : W.cell? ⟨w.heap.size, 0, none⟩ = some x ∧ W.cell? ⟨w.heap.size, 1, none⟩ = some y :=
  ⟨h.cell (by simp) (by show w.heap.size ≠ blk; omega) (by simp), h.cell (by simp) (by show w.heap.size ≠ blk; omega) (by simp)⟩
theorem SrtAt.off {w : World} {o : Obj} (h : SrtAt I blk (w.alloc o) W d) : w.grownBy W (some blk) := (World.grownBy_alloc w o (some blk)).andThen h.grown (fun _ hj => .inr hj)

set_option maxHeartbeats 2000000 in
set_option maxRecDepth 100000 in
theorem srt_insertion [Inhabited α] (L : LaysGg.n26 P ρ) (S : Srt P lt g lb sf sb blk n n0 I) (a b : Nat) (d : Array α) (w : World) (hI : I w d) (hab : a ≤ b) (hb : b ≤ n) (hsz : n < 4611686018427387904) :
    Calls P (ρ.f 26) #[.agg #[.func (.func g) #[] lb, .func (.func sf) #[] sb], .int .i64 a, .int .i64 b] w fun e w' => e = .returned (.tuple #[]) ∧ I w' (Sort.insertionSort lt d a b) ∧ w.grownBy w' (some blk) := by
  have mixed := L.mixed; have t0 := L.t0; have a0 := L.a0; have z0 := L.z0; have v0 := L.v0; have t3 := L.t3; have a3 := L.a3; have z3 := L.z3; have v3 := L.v3; have t4 := L.t4; have a4 := L.a4; have z4 := L.z4; have v4 := L.v4; have t26 := L.t26; have a26 := L.a26; have z26 := L.z26; have v26 := L.v26; have t37 := L.t37; have a37 := L.a37; have z37 := L.z37; have v37 := L.v37; have t44 := L.t44; have a44 := L.a44; have z44 := L.z44; have v44 := L.v44
  have u44 := run_underlying L.t44
  have eg := S.eg
  have hblk := S.blt hI
  have A0 : SrtAt I blk (w.alloc (.cells #[.func (.func g) #[] lb, .func (.func sf) #[] sb] (ρ.t 44))) (w.alloc (.cells #[.func (.func g) #[] lb, .func (.func sf) #[] sb] (ρ.t 44))) d := .start (S.keep hI (World.grownBy_alloc w _ none))
  go_enter L.f26, BodyGg.n26_ntmps ρ
  go_wp2
  go_loopw [6] (fun vi wr => ∃ (i : Nat) (dk : Array α), vi = .int .i64 i ∧ a < i ∧ i ≤ b + 1 ∧ SrtAt I blk (w.alloc (.cells #[.func (.func g) #[] lb, .func (.func sf) #[] sb] (ρ.t 44))) wr dk ∧ Hid (insOuter lt a b i dk = insOuter lt a b (a + 1) d)) (fun vi _ => b + 1 - (intOf vi).toNat)
  case atStart => exact ⟨a + 1, d, by go_num, by omega, by omega, A0, rfl⟩
  case round =>
    obtain ⟨i, dk, rfl, hai, hib, hA, HO⟩ := hrel
    go_wp2
    · go_loopw [7] (fun vj wr2 => ∃ (j : Nat) (dj : Array α), vj = .int .i64 j ∧ a ≤ j ∧ j ≤ i ∧ SrtAt I blk (w.alloc (.cells #[.func (.func g) #[] lb, .func (.func sf) #[] sb] (ρ.t 44))) wr2 dj ∧ Hid (insInner lt a j dj = insInner lt a i dk)) (fun vj _ => (intOf vj).toNat)
      case atStart => exact ⟨i, dk, rfl, by omega, Nat.le_refl _, hA, rfl⟩
      case round =>
        clear hA
        obtain ⟨j, dj, rfl, haj, hji, hA, HI⟩ := hrel
        have hlt : i < b := by assumption
        obtain ⟨c0, _⟩ := hA.box hblk
        have OUT : (j ≤ a ∨ lt dj[j]! dj[j - 1]! = false) → ∀ W, SrtAt I blk (w.alloc (.cells #[.func (.func g) #[] lb, .func (.func sf) #[] sb] (ρ.t 44))) W dj → ∃ (i' : Nat) (dk' : Array α), Value.int .i64 ((i : Int) + 1) = .int .i64 i' ∧ a < i' ∧ i' ≤ b + 1 ∧ SrtAt I blk (w.alloc (.cells #[.func (.func g) #[] lb, .func (.func sf) #[] sb] (ρ.t 44))) W dk' ∧ Hid (insOuter lt a b i' dk' = insOuter lt a b (a + 1) d) := fun hs W hW =>
          ⟨i + 1, dj, by go_num, by omega, by omega, hW, (show Hid _ from by rw [← HO.out, insOuter_go _ _ _ _ _ hlt, ← HI.out, insInner_stop _ _ _ _ hs]; exact rfl)⟩
        have OUT : Aside _ := OUT
        by_cases hja : a < j
        · have hl := S.less (j : Int) ((j : Int) - 1) j (j - 1) rfl (by omega) hA.inv (by omega) (by omega)
          cases hlv : lt dj[j]! dj[j - 1]! with
          | true =>
            rw [hlv] at hl
            go_wp2_with (go_at_fn g; refine hl.mono ?_; rintro e w1 ⟨rfl, hg1⟩; have hA1 := hA.grow S hg1; obtain ⟨_, c1⟩ := hA1.box hblk; obtain ⟨w2, hs, hI2, hg2⟩ := S.swap (j : Int) ((j : Int) - 1) j (j - 1) rfl (by omega) hA1.inv (by omega) (by omega))
            go_roundw
            case rel =>
              (repeat apply Exists.intro)
              exact ⟨⟨j - 1, swp dj j (j - 1), by congr 1 <;> omega, by omega, by omega, hA1.turn hI2 hg2, (show Hid _ from by rw [← HI.out, insInner_go lt a j dj hja hlv]; exact rfl)⟩, by rw [decide_eq_true hlt, show ((j - 1 : Nat) : Int) = (j : Int) - 1 by omega]⟩
            case measure => simp [intOf]; omega
          | false =>
            rw [hlv] at hl
            go_wp2_with (go_at_fn g; refine hl.mono ?_; rintro e w1 ⟨rfl, hg1⟩; have hA1 := hA.grow S hg1)
            go_roundw
            case rel => exact OUT.out (Or.inr hlv) _ hA1
            case measure => simp [intOf]; omega
        · go_wp2
          go_roundw
          case rel => exact OUT.out (Or.inl (by omega)) _ hA
          case measure => simp [intOf]; omega
    · have hge : ¬ i < b := by assumption
      go_end0
      exact ⟨rfl, by unfold Sort.insertionSort; rw [← HO.out, insOuter_stop _ _ _ _ _ hge]; exact hA.inv, hA.off⟩
end Go.Proofs.YtjdobbjdlighpaaGreatDoor
