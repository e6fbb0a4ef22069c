/-
  Own text. What the program's package recipe is to answer, as contracts (RecSpec), over what the world holds (Env); blocks that are followed through calls (Blk); the document's RecipeOf in one word.
-/
import Derived.Test.YthgajeobenagjaaGreatDoorRecFacts
import Derived.Test.YthgajeobenagjaaGreatDoorRecOwn
import Derived.Test.YthgajeobenagjaaGreatDoorRecSame
import Derived.Test.YthgajeobenagjaaGreatDoorRecErr
import Derived.Test.YthgajeobenagjaaGreatDoorRecBlk
namespace Go.Proofs.YthgajeobenagjaaGreatDoor
open Go.RowKit

abbrev rcpDV (d : RcpD) (v : Value) : Value := rcpV ⟨d.1.toArray⟩ d.2.1 (d.2.2.1 : Nat) v
def ofR (nm l : List UInt8) : RcpD × Int := if isName nm = false then (([], 0, 0, []), 4) else if 4000 < l.length then (([], 0, 0, []), 2) else ((nm, (l.length : Int), pmore 2166136261 l, idsOf l), 0)
def textR (nm : List UInt8) (len : Int) (p : Nat) (ids : List (Nat × Int)) : List UInt8 := if recFault nm len ids = (0, -1) then rcpText nm len p ids else []
theorem refOf_any (nm s : ByteArray) (hnm : nm.size ≤ 50000) (hs : s.size ≤ 50000) (w : World) :
    Calls Tryz.prog 18 #[.string nm, .string s] w fun e w' => ∃ v, e = .returned (.tuple #[rcpDV (ofR nm.data.toList s.data.toList).1 v, .int .i64 (ofR nm.data.toList s.data.toList).2]) ∧ IdsIn w.heap.size w' v (ofR nm.data.toList s.data.toList).1.2.2.2 ∧ Below w.heap.size w w' := by
  have hm : nm.size ≤ maxLen := by unfold maxLen; omega
  have hsl : s.data.toList.length = s.size := by rw [Array.length_toList]; rfl
  by_cases h1 : isName nm.data.toList = true
  · by_cases h2 : 4000 < s.size
    · have e : ofR nm.data.toList s.data.toList = (([], 0, 0, []), 2) := by unfold ofR; rw [if_neg (by rw [h1]; simp), if_pos (by omega)]
      rw [e]
      exact (recipeOf_bound nm s hm h1 h2 w).mono fun e w' ⟨h, hb⟩ => ⟨.slice none 0 0, h, IdsIn.nil _ _, hb⟩
    · have e : ofR nm.data.toList s.data.toList = ((nm.data.toList, (s.size : Int), pmore 2166136261 s.data.toList, idsOf s.data.toList), 0) := by unfold ofR; rw [if_neg (by rw [h1]; simp), if_neg (by omega), hsl]
      rw [e]
      exact (recipeOf_fine nm s hm h1 (by omega) w).mono fun e w' ⟨v, h, hi, hb⟩ => ⟨v, h, hi, hb⟩
  · have h1' : isName nm.data.toList = false := by simpa using h1
    have e : ofR nm.data.toList s.data.toList = (([], 0, 0, []), 4) := by unfold ofR; rw [if_pos h1']
    rw [e]
    exact (recipeOf_name nm s hm h1' w).mono fun e w' ⟨h, hb⟩ => ⟨.slice none 0 0, h, IdsIn.nil _ _, hb⟩

structure RecSpec (a : Nat → Addr) (Env : World → Prop) : Prop where
  stable : ∀ {w w' : World}, Env w → Below w.heap.size w w' → Env w'
  err : ∀ {w : World}, Env w → ErrW w a
  name : ∀ (s : ByteArray) (w : World), s.size ≤ 50000 → Env w → Calls Tryz.prog 27 #[.string s] w fun e w' => e = .returned (.bool (isName s.data.toList)) ∧ Below w.heap.size w w'
  of' : ∀ (nm s : ByteArray) (w : World), nm.size ≤ 50000 → s.size ≤ 50000 → Env w → Calls Tryz.prog 6 #[.string nm, .string s] w fun e w' => ∃ v ev, e = .returned (.tuple #[rcpDV (ofR nm.data.toList s.data.toList).1 v, ev]) ∧ IdsIn w.heap.size w' v (ofR nm.data.toList s.data.toList).1.2.2.2 ∧ ErrIn w.heap.size w' a ev ((ofR nm.data.toList s.data.toList).2, -1) ∧ Below w.heap.size w w'
  check : ∀ (nm : ByteArray) (len : Int) (p : Nat) (v : Value) (ids : List (Nat × Int)) (w : World), nm.size ≤ 50000 → ids.length ≤ 50000 → Env w → IdsAt w v ids → Calls Tryz.prog 12 #[rcpV nm len (p : Nat) v] w fun e w' => ∃ ev, e = .returned ev ∧ ErrIn w.heap.size w' a ev (recFault nm.data.toList len ids) ∧ Below w.heap.size w w'
  rep : ∀ (nm : ByteArray) (len : Int) (p : Nat) (v : Value) (ids : List (Nat × Int)) (w : World), ids.length ≤ 50000 → Env w → IdsAt w v ids → Calls Tryz.prog 13 #[rcpV nm len (p : Nat) v] w fun e w' => e = .returned (idV ((repOf ids).1 : Nat) (repOf ids).2) ∧ Below w.heap.size w w'
  text : ∀ (nm : ByteArray) (len : Int) (p : Nat) (v : Value) (ids : List (Nat × Int)) (w : World), nm.size ≤ 50000 → ids.length ≤ 50000 → p < 4294967296 → (∀ j (hj : j < ids.length), ids[j].1 < 4294967296) → Env w → IdsAt w v ids → Calls Tryz.prog 9 #[rcpV nm len (p : Nat) v] w fun e w' => ∃ ev, e = .returned (.tuple #[.string ⟨(textR nm.data.toList len p ids).toArray⟩, ev]) ∧ ErrIn w.heap.size w' a ev (recFault nm.data.toList len ids) ∧ Below w.heap.size w w'
  read : ∀ (t : ByteArray) (w : World), t.size ≤ 40000 → (rcpRead t.data.toList).2 = (0, -1) → Env w → Calls Tryz.prog 10 #[.string t] w fun e w' => ∃ v ev, e = .returned (.tuple #[rcpDV (rcpRead t.data.toList).1 v, ev]) ∧ IdsIn w.heap.size w' v (rcpRead t.data.toList).1.2.2.2 ∧ ErrIn w.heap.size w' a ev (rcpRead t.data.toList).2 ∧ Below w.heap.size w w'
  join : ∀ (nm : ByteArray) (len : Int) (p : Nat) (v vl : Value) (ids : List (Nat × Int)) (ls : List (List UInt8)) (w : World), nm.size ≤ 50000 → ids.length ≤ 50000 → ls.length ≤ 50000 → (∀ i (h : i < ls.length), ls[i].length ≤ 100) → Env w → IdsAt w v ids → CellsAt w vl (ls.map txtV) → Calls Tryz.prog 8 #[rcpV nm len (p : Nat) v, vl] w fun e w' => ∃ ev, e = .returned (.tuple #[.string ⟨(joinOf nm.data.toList len p ids ls).1.toArray⟩, ev]) ∧ ErrIn w.heap.size w' a ev (joinOf nm.data.toList len p ids ls).2 ∧ Below w.heap.size w w'

end Go.Proofs.YthgajeobenagjaaGreatDoor
