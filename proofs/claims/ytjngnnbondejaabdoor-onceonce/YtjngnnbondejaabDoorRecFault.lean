/-
  Own text. A recipe's fault, pure, and the document's RecipeFault by a contract.
-/
import Derived.Test.YtjngnnbondejaabDoorRecName
import Derived.BigQuiet
namespace Go.Proofs.YtjngnnbondejaabDoor
open Go.RowKit

/- v is a slice of IDs. -/
def IdsAt (w : World) (v : Value) (ids : List (Nat × Int)) : Prop :=
  ∃ (p : Option Addr) (c : Nat), v = .slice p ids.length c ∧ ∀ i (h : i < ids.length), ∃ b o, p = some ⟨b, o, none⟩ ∧ b < w.heap.size ∧ w.cell? ⟨b, o + i * 2, none⟩ = some (.int .u32 (ids[i].1 : Nat)) ∧ w.cell? ⟨b, o + i * 2 + 1, none⟩ = some (.int .i64 ids[i].2)
theorem IdsAt.below {w w' : World} {v : Value} {ids : List (Nat × Int)} (h : IdsAt w v ids) (hb : Below w.heap.size w w') : IdsAt w' v ids := by
  obtain ⟨p, c, rfl, h⟩ := h
  refine ⟨p, c, rfl, fun i hi => ?_⟩
  obtain ⟨b, o, hp, hlt, h1, h2⟩ := h i hi
  exact ⟨b, o, hp, Nat.lt_of_lt_of_le hlt hb.size, (hb.cell (p := ⟨b, o + i * 2, none⟩) hlt).trans h1, (hb.cell (p := ⟨b, o + i * 2 + 1, none⟩) hlt).trans h2⟩
abbrev rcpV (nm : ByteArray) (len p : Int) (v : Value) : Value := .agg #[.string nm, .int .i64 len, .int .u32 p, v]

def idOk (x : Nat × Int) : Bool := decide (1 ≤ x.2 ∧ x.2 ≤ 64)
def firstBad : Nat → List (Nat × Int) → Option Nat
  | _, [] => none
  | i, x :: r => if idOk x = true then firstBad (i + 1) r else some i
def lenSum (ids : List (Nat × Int)) : Int := (ids.map (·.2)).sum
def recFault (nm : List UInt8) (len : Int) (ids : List (Nat × Int)) : Int × Int :=
  if isName nm = false then (4, -1) else if len < 0 ∨ 4000 < len then (2, -1) else if 250 < ids.length then (7, -1) else
    match firstBad 0 ids with
    | some i => (3, (i : Int))
    | none => if lenSum ids = len then (0, -1) else (9, -1)
theorem firstBad_at : ∀ (ids : List (Nat × Int)) (i k : Nat) (h : k < ids.length), (∀ j (hj : j < k), idOk (ids[j]'(by omega)) = true) → idOk ids[k] = false → firstBad i ids = some (i + k)
  | [], _, _, h, _, _ => by simp at h
  | x :: r, i, 0, _, _, hb => by
    have hb' : idOk x = false := hb
    rw [firstBad, hb']
    rfl
  | x :: r, i, k + 1, h, ha, hb => by
    have h0 : idOk x = true := ha 0 (by omega)
    rw [firstBad, if_pos h0, firstBad_at r (i + 1) k (by simpa using h) (fun j hj => by have := ha (j + 1) (by omega); simpa using this) (by simpa using hb)]
    congr 1
    omega
theorem firstBad_none : ∀ (ids : List (Nat × Int)) (i : Nat), (∀ j (hj : j < ids.length), idOk ids[j] = true) → firstBad i ids = none
  | [], _, _ => rfl
  | x :: r, i, ha => by
    have h0 : idOk x = true := ha 0 (by simp)
    rw [firstBad, if_pos h0, firstBad_none r (i + 1) (fun j hj => by have := ha (j + 1) (by simpa using hj); simpa using this)]
theorem lenSum_snoc (ids : List (Nat × Int)) (k : Nat) (h : k < ids.length) : lenSum (ids.take (k + 1)) = lenSum (ids.take k) + ids[k].2 := by
  rw [List.take_succ_eq_append_getElem h, lenSum, List.map_append, List.sum_append]
  simp [lenSum]
theorem recFault_name {nm : List UInt8} (len : Int) (ids : List (Nat × Int)) (h : isName nm = false) : recFault nm len ids = (4, -1) := by unfold recFault; rw [if_pos h]
theorem recFault_len {nm : List UInt8} {len : Int} (ids : List (Nat × Int)) (h : isName nm = true) (h2 : len < 0 ∨ 4000 < len) : recFault nm len ids = (2, -1) := by
  unfold recFault
  rw [if_neg (by rw [h]; simp), if_pos h2]
theorem recFault_many {nm : List UInt8} {len : Int} {ids : List (Nat × Int)} (h : isName nm = true) (h2 : ¬ (len < 0 ∨ 4000 < len)) (h3 : 250 < ids.length) : recFault nm len ids = (7, -1) := by
  unfold recFault
  rw [if_neg (by rw [h]; simp), if_neg h2, if_pos h3]
theorem recFault_shape {nm : List UInt8} {len : Int} {ids : List (Nat × Int)} (h : isName nm = true) (h2 : ¬ (len < 0 ∨ 4000 < len)) (h3 : ¬ 250 < ids.length) {i : Nat} (h4 : firstBad 0 ids = some i) : recFault nm len ids = (3, (i : Int)) := by
  unfold recFault
  rw [if_neg (by rw [h]; simp), if_neg h2, if_neg h3, h4]
theorem recFault_sum {nm : List UInt8} {len : Int} {ids : List (Nat × Int)} (h : isName nm = true) (h2 : ¬ (len < 0 ∨ 4000 < len)) (h3 : ¬ 250 < ids.length) (h4 : firstBad 0 ids = none) (h5 : lenSum ids ≠ len) : recFault nm len ids = (9, -1) := by
  unfold recFault
  rw [if_neg (by rw [h]; simp), if_neg h2, if_neg h3, h4]
  simp only
  rw [if_neg h5]
theorem recFault_fine {nm : List UInt8} {len : Int} {ids : List (Nat × Int)} (h : isName nm = true) (h2 : ¬ (len < 0 ∨ 4000 < len)) (h3 : ¬ 250 < ids.length) (h4 : firstBad 0 ids = none) (h5 : lenSum ids = len) : recFault nm len ids = (0, -1) := by
  unfold recFault
  rw [if_neg (by rw [h]; simp), if_neg h2, if_neg h3, h4]
  simp only
  rw [if_pos h5]

/- A recipe in a box of its own, and a result of two cells behind it: what both hold. -/
structure FaultW (w W : World) (nm : ByteArray) (len p : Int) (v : Value) : Prop where
  below : Below w.heap.size w W
  size : w.heap.size + 1 < W.heap.size
  b0 : W.cell? ⟨w.heap.size, 0, none⟩ = some (.string nm)
  b1 : W.cell? ⟨w.heap.size, 1, none⟩ = some (.int .i64 len)
  b2 : W.cell? ⟨w.heap.size, 2, none⟩ = some (.int .u32 p)
  b3 : W.cell? ⟨w.heap.size, 3, none⟩ = some v
  r0 : W.cell? ⟨w.heap.size + 1, 0, none⟩ = some (.int .i64 0)
  r1 : W.cell? ⟨w.heap.size + 1, 1, none⟩ = some (.int .i64 0)
  f0 : W.frozen? ⟨w.heap.size + 1, 0, none⟩ = false
  f1 : W.frozen? ⟨w.heap.size + 1, 1, none⟩ = false
theorem FaultW.new (w : World) (nm : ByteArray) (len p : Int) (v : Value) (t t' : TypeId) : FaultW w ((w.alloc (.cells #[.string nm, .int .i64 len, .int .u32 p, v] t)).alloc (.cells #[.int .i64 0, .int .i64 0] t')) nm len p v where
  below := ((Below.refl _ w).alloc (Nat.le_refl _) _).alloc (by simp) _
  size := by simp
  b0 := by rw [World.cell?_alloc_lt _ _ ⟨w.heap.size, 0, none⟩ (by simp)]; simp
  b1 := by rw [World.cell?_alloc_lt _ _ ⟨w.heap.size, 1, none⟩ (by simp)]; simp
  b2 := by rw [World.cell?_alloc_lt _ _ ⟨w.heap.size, 2, none⟩ (by simp)]; simp
  b3 := by rw [World.cell?_alloc_lt _ _ ⟨w.heap.size, 3, none⟩ (by simp)]; simp
  r0 := by simp
  r1 := by simp
  f0 := by simp
  f1 := by simp
theorem FaultW.next {w W W' : World} {nm : ByteArray} {len p : Int} {v : Value} (h : FaultW w W nm len p v) (hb : Below W.heap.size W W') : FaultW w W' nm len p v := by
  have hs := h.size
  have hs' := hb.size
  exact ⟨h.below.trans (hb.mono h.below.size), by omega, (hb.cell (p := ⟨_, 0, none⟩) (by simp; omega)).trans h.b0, (hb.cell (p := ⟨_, 1, none⟩) (by simp; omega)).trans h.b1, (hb.cell (p := ⟨_, 2, none⟩) (by simp; omega)).trans h.b2, (hb.cell (p := ⟨_, 3, none⟩) (by simp; omega)).trans h.b3,
    (hb.cell (p := ⟨_, 0, none⟩) (by simp; omega)).trans h.r0, (hb.cell (p := ⟨_, 1, none⟩) (by simp; omega)).trans h.r1, (hb.frozen (p := ⟨_, 0, none⟩) (by simp; omega)).trans h.f0, (hb.frozen (p := ⟨_, 1, none⟩) (by simp; omega)).trans h.f1⟩

end Go.Proofs.YtjngnnbondejaabDoor
