/-
  Own text. A node of the program's in memory: its two maps' kits (strRcps: names to recipes; idBins: reps to bins), a node as files and bins (NSt), where they lie (PNode).
-/
import Derived.Test.YteefjbdejcpepaaDoorBinP
import Derived.Test.YteefjbdejcpepaaDoorRecFault
import Derived.Maps.Keyed
namespace Go.Proofs.YteefjbdejcpepaaDoor
open Go.RowKit Go.Maps

/- A recipe as a map holds it: name, length, print, the IDs' slice. -/
abbrev Rw := List UInt8 × Int × Int × Value
abbrev rwV (c : Rw) : Value := rcpV ⟨c.1.toArray⟩ c.2.1 c.2.2.1 c.2.2.2
def unRw : Value → Option Rw
  | .agg cs => match cs.toList with
    | [.string s, .int .i64 l, .int .u32 p, v] => some (s.data.toList, l, p, v)
    | _ => none
  | _ => none
theorem unRw_back (v : Value) (c : Rw) (h : unRw v = some c) : v = rwV c := by
  unfold unRw at h
  split at h
  next cs =>
    split at h
    next s l p v e =>
      cases h
      have : cs = #[Value.string s, Value.int .i64 l, Value.int .u32 p, v] := by rw [← Array.toArray_toList (xs := cs), e]
      rw [this]
    next => cases h
  next => cases h
theorem strKeyed : Keyed Tryd.prog 9 := string_keyed Tryd.underlying9
theorem strKey_eq (v : Value) : keyOf Tryd.prog 9 v = mapKey Tryd.prog 9 v := by
  unfold keyOf
  rw [Tryd.underlying9]
def WfNm (x : List UInt8) : Prop := x.length ≤ maxLen
set_option maxRecDepth 100000 in
theorem strKey (x : List UInt8) (hx : WfNm x) : ∃ kl, keyOf Tryd.prog 9 (.string ⟨x.toArray⟩) = some kl := by
  refine ⟨.string x, ?_⟩
  rw [strKey_eq]
  unfold mapKey
  rw [Tryd.underlying9]
  have h1 : x.toArray.size = x.length := List.size_toArray
  have : (⟨x.toArray⟩ : ByteArray).size ≤ maxLen := by show x.toArray.size ≤ maxLen; rw [h1]; exact hx
  simp only [this, if_true]
set_option maxRecDepth 100000 in
theorem strInv (v : Value) (kl : Lit) (h : keyOf Tryd.prog 9 v = some kl) : ∃ x : List UInt8, WfNm x ∧ v = .string ⟨x.toArray⟩ := by
  rw [strKey_eq] at h
  unfold mapKey at h
  rw [Tryd.underlying9] at h
  cases v <;> simp only [reduceCtorEq] at h
  next s =>
    split at h
    · rename_i hs
      exact ⟨s.data.toList, by show s.data.toList.length ≤ maxLen; rw [Array.length_toList]; exact hs, rfl⟩
    · cases h
def strRcps : MapKit Tryd.prog 9 (List UInt8) Rw where
  mkK x := .string ⟨x.toArray⟩
  wf := WfNm
  mkV := rwV
  unV := unRw
  K := strKeyed
  key := strKey
  inv := strInv
  inj x y e := by
    have e1 : (⟨x.toArray⟩ : ByteArray) = ⟨y.toArray⟩ := Value.string.inj e
    have e2 := congrArg (fun b : ByteArray => b.data.toList) e1
    simpa using e2
  un _ := rfl
  back := unRw_back

def unPtr : Value → Option (Option Addr)
  | .pointer p => some p
  | _ => none
def idBins : MapKit Tryd.prog 37 (Nat × Int) (Option Addr) where
  mkK x := idV (x.1 : Nat) x.2
  wf := WfID
  mkV p := .pointer p
  unV := unPtr
  K := idKeyed
  key := idKey
  inv := idInv
  inj x y e := by
    have e1 := Array.mk.inj (Value.agg.inj e)
    simp at e1
    exact Prod.ext (by omega) e1.2
  un _ := rfl
  back v c h := by
    unfold unPtr at h
    split at h
    · cases h; rfl
    · cases h
theorem ptrZero (w : World) : (zeroValue 52).run Tryd.prog w = .ok (.pointer none) w := by kernel_rfl
theorem rcpZero (w : World) : (zeroValue 87).run Tryd.prog w = .ok (rwV ([], 0, 0, .slice none 0 0)) w := by kernel_rfl
theorem ofS_drew {w : World} {b : Nat} {l : List (List UInt8 × Rw)} (h : strRcps.Of w b l) : strRcps.Of w.drew b l := h.kept (grown_drewN w 1) (by simp)
theorem ofS_below {w w' : World} {b : Nat} {l : List (List UInt8 × Rw)} (h : strRcps.Of w b l) (hb : Below w.heap.size w w') : strRcps.Of w' b l := h.kept (grown_of_below hb) (by simp)
theorem ofB_drew {w : World} {b : Nat} {l : List ((Nat × Int) × Option Addr)} (h : idBins.Of w b l) : idBins.Of w.drew b l := h.kept (grown_drewN w 1) (by simp)
theorem ofB_below {w w' : World} {b : Nat} {l : List ((Nat × Int) × Option Addr)} (h : idBins.Of w b l) (hb : Below w.heap.size w w') : idBins.Of w' b l := h.kept (grown_of_below hb) (by simp)
end Go.Proofs.YteefjbdejcpepaaDoor
