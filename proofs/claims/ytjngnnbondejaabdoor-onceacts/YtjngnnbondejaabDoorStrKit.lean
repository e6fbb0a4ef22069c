/-
  Own text. Maps whose keys are texts: a key's literal.
-/
import Derived.Test.YtjngnnbondejaabDoorMem
import Derived.Test.YtjngnnbondejaabDoorMapKit
import Derived.Maps.Keyed
namespace Go.Proofs.YtjngnnbondejaabDoor
open Go.RowKit Go.Maps

theorem strKeyed : Keyed Tryd.prog 9 := string_keyed Tryd.underlying9
theorem strKey_eq (v : Value) : keyOf Tryd.prog 9 v = mapKey Tryd.prog 9 v := by
  unfold keyOf
  rw [Tryd.underlying9]
def WfNm (x : List UInt8) : Prop := x.length ≤ maxLen
set_option maxRecDepth 100000 in
theorem strKey (x : List UInt8) (hx : WfNm x) : ∃ kl, keyOf Tryd.prog 9 (.string ⟨x.toArray⟩) = some kl := by
  refine ⟨.string x, ?_⟩
  rw [strKey_eq]
  unfold mapKey
  rw [Tryd.underlying9]
  have h1 : x.toArray.size = x.length := List.size_toArray
  have : (⟨x.toArray⟩ : ByteArray).size ≤ maxLen := by show x.toArray.size ≤ maxLen; rw [h1]; exact hx
  simp only [this, if_true]
set_option maxRecDepth 100000 in
theorem strInv (v : Value) (kl : Lit) (h : keyOf Tryd.prog 9 v = some kl) : ∃ x : List UInt8, WfNm x ∧ v = .string ⟨x.toArray⟩ := by
  rw [strKey_eq] at h
  unfold mapKey at h
  rw [Tryd.underlying9] at h
  cases v <;> simp only [reduceCtorEq] at h
  next s =>
    split at h
    · rename_i hs
      exact ⟨s.data.toList, by show s.data.toList.length ≤ maxLen; rw [Array.length_toList]; exact hs, rfl⟩
    · cases h
set_option maxRecDepth 100000 in
theorem strLit (x : List UInt8) (hx : WfNm x) : (keyOf Tryd.prog 9 (.string ⟨x.toArray⟩)).getD (.bool false) = .string x := by
  rw [strKey_eq]
  unfold mapKey
  rw [Tryd.underlying9]
  have h1 : x.toArray.size = x.length := List.size_toArray
  have : (⟨x.toArray⟩ : ByteArray).size ≤ maxLen := by show x.toArray.size ≤ maxLen; rw [h1]; exact hx
  simp only [this, if_true]
  rfl
end Go.Proofs.YtjngnnbondejaabDoor
