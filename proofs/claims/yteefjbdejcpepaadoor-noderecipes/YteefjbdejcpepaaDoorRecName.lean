/-
  Own text. Recipes, pure: names, a recipe's fault; and the document's IsName, Bare, Fine by contracts.
-/
import Derived.Test.YteefjbdejcpepaaDoorChecked
import Derived.WalkKit
import Derived.Lib.Strings
namespace Go.Proofs.YteefjbdejcpepaaDoor
open Go.RowKit

def nameByte (c : UInt8) : Bool := decide ((97 ≤ c.toNat ∧ c.toNat ≤ 122) ∨ (48 ≤ c.toNat ∧ c.toNat ≤ 57) ∨ c.toNat = 46 ∨ c.toNat = 45)
def isName (l : List UInt8) : Bool := l.all nameByte && (decide (1 ≤ l.length) && decide (l.length ≤ 12))
theorem isName_bad {l : List UInt8} {k : Nat} {c : UInt8} (h : l[k]? = some c) (hc : nameByte c = false) : isName l = false := by
  unfold isName
  rw [Bool.and_eq_false_iff]
  left
  rw [List.all_eq_false]
  exact ⟨c, List.mem_of_getElem? h, by rw [hc]; simp⟩
theorem nameTo_next {l : List UInt8} {k : Nat} {c : UInt8} (h : (l.take k).all nameByte = true) (hg : l[k]? = some c) (hc : nameByte c = true) : (l.take (k + 1)).all nameByte = true := by
  obtain ⟨hk, rfl⟩ := List.getElem?_eq_some_iff.1 hg
  rw [List.take_succ_eq_append_getElem hk, List.all_append, h]
  simp [hc]
theorem cases8 (x : Int) : x < 45 ∨ x = 45 ∨ x = 46 ∨ x = 47 ∨ (48 ≤ x ∧ x ≤ 57) ∨ (58 ≤ x ∧ x ≤ 96) ∨ (97 ≤ x ∧ x ≤ 122) ∨ 123 ≤ x := by
  rcases Int.lt_or_le x 45 with h | h
  · exact .inl h
  · omega

abbrev faultV (c a : Int) : Value := .agg #[.int .i64 c, .int .i64 a]
end Go.Proofs.YteefjbdejcpepaaDoor
