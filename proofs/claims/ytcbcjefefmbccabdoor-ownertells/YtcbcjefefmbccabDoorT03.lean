/-
  Own text. Recipes, pure: names, a recipe's fault; and the document's IsName, Bare, Fine by contracts.
  Own text. A recipe's fault, pure, and the document's RecipeFault by a contract.
  Own text. Errors by their numbers and places, in one word (ErrIs); faulted and coded at the right ones by contracts; LongRecipe.
  Own text. Some of the sentinels, as the world holds them: those of a list (ErrE), whatever the others are.
  Own text. Memory that is followed through calls: new blocks, blocks that hold what they held (Blk), what lies between two block numbers (SameIn).
  Own text. owner.Check by a contract: the first fault of nodes, with its place.
  Own text. owner.cutAt by a contract: rising nodes cut at a number.
-/
import Derived.Test.YtcbcjefefmbccabDoorChecked
import Derived.WalkKit
import Derived.Lib.Strings
import Derived.BigQuiet
import Derived.Test.YtcbcjefefmbccabDoorT01
import Derived.Below
import Derived.RangeFuncRecord
import Derived.Test.YtcbcjefefmbccabDoorT02
import Derived.Laws.AppendOwnNone
import Derived.Lib.AppendZerosOnto
namespace Go.Proofs.YtcbcjefefmbccabDoor
open Go.RowKit

def nameByte (c : UInt8) : Bool := decide ((97 ≤ c.toNat ∧ c.toNat ≤ 122) ∨ (48 ≤ c.toNat ∧ c.toNat ≤ 57) ∨ c.toNat = 46 ∨ c.toNat = 45)
def isName (l : List UInt8) : Bool := l.all nameByte && (decide (1 ≤ l.length) && decide (l.length ≤ 12))
theorem isName_bad {l : List UInt8} {k : Nat} {c : UInt8} (h : l[k]? = some c) (hc : nameByte c = false) : isName l = false := by
  unfold isName
  rw [Bool.and_eq_false_iff]
  left
  rw [List.all_eq_false]
  exact ⟨c, List.mem_of_getElem? h, by rw [hc]; simp⟩
theorem nameTo_next {l : List UInt8} {k : Nat} {c : UInt8} (h : (l.take k).all nameByte = true) (hg : l[k]? = some c) (hc : nameByte c = true) : (l.take (k + 1)).all nameByte = true := by
  obtain ⟨hk, rfl⟩ := List.getElem?_eq_some_iff.1 hg
  rw [List.take_succ_eq_append_getElem hk, List.all_append, h]
  simp [hc]
theorem cases8 (x : Int) : x < 45 ∨ x = 45 ∨ x = 46 ∨ x = 47 ∨ (48 ≤ x ∧ x ≤ 57) ∨ (58 ≤ x ∧ x ≤ 96) ∨ (97 ≤ x ∧ x ≤ 122) ∨ 123 ≤ x := by
  rcases Int.lt_or_le x 45 with h | h
  · exact .inl h
  · omega

abbrev faultV (c a : Int) : Value := .agg #[.int .i64 c, .int .i64 a]
theorem bare_any (c : Int) (w : World) : Calls Tryd.prog 29 #[.int .i64 c] w fun e w' => e = .returned (faultV c (-1)) ∧ Below w.heap.size w w' := by
  go_enter Tryd.func29, Tryd.ntmps29
  go_wp2_with fail
  exact bodyPost_ret (v := faultV c (-1)) (by simp [results, Tryd.results29, go_sem]) rfl ⟨rfl, (Below.refl _ w).alloc (Nat.le_refl _) _⟩
theorem fine_any (w : World) : Calls Tryd.prog 43 #[] w fun e w' => e = .returned (faultV 0 (-1)) ∧ Below w.heap.size w w' := by
  go_enter Tryd.func43, Tryd.ntmps43
  go_wp2_with fail
  exact bodyPost_ret (v := faultV 0 (-1)) (by simp [results, Tryd.results43, go_sem]) rfl ⟨rfl, (Below.refl _ w).alloc (Nat.le_refl _) _⟩
end Go.Proofs.YtcbcjefefmbccabDoor
namespace Go.Proofs.YtcbcjefefmbccabDoor
open Go.RowKit

/- v is a slice of IDs. -/
def IdsAt (w : World) (v : Value) (ids : List (Nat × Int)) : Prop :=
  ∃ (p : Option Addr) (c : Nat), v = .slice p ids.length c ∧ ∀ i (h : i < ids.length), ∃ b o, p = some ⟨b, o, none⟩ ∧ b < w.heap.size ∧ w.cell? ⟨b, o + i * 2, none⟩ = some (.int .u32 (ids[i].1 : Nat)) ∧ w.cell? ⟨b, o + i * 2 + 1, none⟩ = some (.int .i64 ids[i].2)
theorem IdsAt.below {w w' : World} {v : Value} {ids : List (Nat × Int)} (h : IdsAt w v ids) (hb : Below w.heap.size w w') : IdsAt w' v ids := by
  obtain ⟨p, c, rfl, h⟩ := h
  refine ⟨p, c, rfl, fun i hi => ?_⟩
  obtain ⟨b, o, hp, hlt, h1, h2⟩ := h i hi
  exact ⟨b, o, hp, Nat.lt_of_lt_of_le hlt hb.size, (hb.cell (p := ⟨b, o + i * 2, none⟩) hlt).trans h1, (hb.cell (p := ⟨b, o + i * 2 + 1, none⟩) hlt).trans h2⟩
abbrev rcpV (nm : ByteArray) (len p : Int) (v : Value) : Value := .agg #[.string nm, .int .i64 len, .int .u32 p, v]

def idOk (x : Nat × Int) : Bool := decide (1 ≤ x.2 ∧ x.2 ≤ 64)
def firstBad : Nat → List (Nat × Int) → Option Nat
  | _, [] => none
  | i, x :: r => if idOk x = true then firstBad (i + 1) r else some i
def lenSum (ids : List (Nat × Int)) : Int := (ids.map (·.2)).sum
def recFault (nm : List UInt8) (len : Int) (ids : List (Nat × Int)) : Int × Int :=
  if isName nm = false then (4, -1) else if len < 0 ∨ 4000 < len then (2, -1) else if 250 < ids.length then (7, -1) else
    match firstBad 0 ids with
    | some i => (3, (i : Int))
    | none => if lenSum ids = len then (0, -1) else (9, -1)
theorem firstBad_at : ∀ (ids : List (Nat × Int)) (i k : Nat) (h : k < ids.length), (∀ j (hj : j < k), idOk (ids[j]'(by omega)) = true) → idOk ids[k] = false → firstBad i ids = some (i + k)
  | [], _, _, h, _, _ => by simp at h
  | x :: r, i, 0, _, _, hb => by
    have hb' : idOk x = false := hb
    rw [firstBad, hb']
    rfl
  | x :: r, i, k + 1, h, ha, hb => by
    have h0 : idOk x = true := ha 0 (by omega)
    rw [firstBad, if_pos h0, firstBad_at r (i + 1) k (by simpa using h) (fun j hj => by have := ha (j + 1) (by omega); simpa using this) (by simpa using hb)]
    congr 1
    omega
theorem firstBad_none : ∀ (ids : List (Nat × Int)) (i : Nat), (∀ j (hj : j < ids.length), idOk ids[j] = true) → firstBad i ids = none
  | [], _, _ => rfl
  | x :: r, i, ha => by
    have h0 : idOk x = true := ha 0 (by simp)
    rw [firstBad, if_pos h0, firstBad_none r (i + 1) (fun j hj => by have := ha (j + 1) (by simpa using hj); simpa using this)]
theorem lenSum_snoc (ids : List (Nat × Int)) (k : Nat) (h : k < ids.length) : lenSum (ids.take (k + 1)) = lenSum (ids.take k) + ids[k].2 := by
  rw [List.take_succ_eq_append_getElem h, lenSum, List.map_append, List.sum_append]
  simp [lenSum]
theorem recFault_name {nm : List UInt8} (len : Int) (ids : List (Nat × Int)) (h : isName nm = false) : recFault nm len ids = (4, -1) := by unfold recFault; rw [if_pos h]
theorem recFault_len {nm : List UInt8} {len : Int} (ids : List (Nat × Int)) (h : isName nm = true) (h2 : len < 0 ∨ 4000 < len) : recFault nm len ids = (2, -1) := by
  unfold recFault
  rw [if_neg (by rw [h]; simp), if_pos h2]
theorem recFault_many {nm : List UInt8} {len : Int} {ids : List (Nat × Int)} (h : isName nm = true) (h2 : ¬ (len < 0 ∨ 4000 < len)) (h3 : 250 < ids.length) : recFault nm len ids = (7, -1) := by
  unfold recFault
  rw [if_neg (by rw [h]; simp), if_neg h2, if_pos h3]
theorem recFault_shape {nm : List UInt8} {len : Int} {ids : List (Nat × Int)} (h : isName nm = true) (h2 : ¬ (len < 0 ∨ 4000 < len)) (h3 : ¬ 250 < ids.length) {i : Nat} (h4 : firstBad 0 ids = some i) : recFault nm len ids = (3, (i : Int)) := by
  unfold recFault
  rw [if_neg (by rw [h]; simp), if_neg h2, if_neg h3, h4]
theorem recFault_sum {nm : List UInt8} {len : Int} {ids : List (Nat × Int)} (h : isName nm = true) (h2 : ¬ (len < 0 ∨ 4000 < len)) (h3 : ¬ 250 < ids.length) (h4 : firstBad 0 ids = none) (h5 : lenSum ids ≠ len) : recFault nm len ids = (9, -1) := by
  unfold recFault
  rw [if_neg (by rw [h]; simp), if_neg h2, if_neg h3, h4]
  simp only
  rw [if_neg h5]
theorem recFault_fine {nm : List UInt8} {len : Int} {ids : List (Nat × Int)} (h : isName nm = true) (h2 : ¬ (len < 0 ∨ 4000 < len)) (h3 : ¬ 250 < ids.length) (h4 : firstBad 0 ids = none) (h5 : lenSum ids = len) : recFault nm len ids = (0, -1) := by
  unfold recFault
  rw [if_neg (by rw [h]; simp), if_neg h2, if_neg h3, h4]
  simp only
  rw [if_pos h5]

/- A recipe in a box of its own, and a result of two cells behind it: what both hold. -/
structure FaultW (w W : World) (nm : ByteArray) (len p : Int) (v : Value) : Prop where
  below : Below w.heap.size w W
  size : w.heap.size + 1 < W.heap.size
  b0 : W.cell? ⟨w.heap.size, 0, none⟩ = some (.string nm)
  b1 : W.cell? ⟨w.heap.size, 1, none⟩ = some (.int .i64 len)
  b2 : W.cell? ⟨w.heap.size, 2, none⟩ = some (.int .u32 p)
  b3 : W.cell? ⟨w.heap.size, 3, none⟩ = some v
  r0 : W.cell? ⟨w.heap.size + 1, 0, none⟩ = some (.int .i64 0)
  r1 : W.cell? ⟨w.heap.size + 1, 1, none⟩ = some (.int .i64 0)
  f0 : W.frozen? ⟨w.heap.size + 1, 0, none⟩ = false
  f1 : W.frozen? ⟨w.heap.size + 1, 1, none⟩ = false
theorem FaultW.new (w : World) (nm : ByteArray) (len p : Int) (v : Value) (t t' : TypeId) : FaultW w ((w.alloc (.cells #[.string nm, .int .i64 len, .int .u32 p, v] t)).alloc (.cells #[.int .i64 0, .int .i64 0] t')) nm len p v where
  below := ((Below.refl _ w).alloc (Nat.le_refl _) _).alloc (by simp) _
  size := by simp
  b0 := by rw [World.cell?_alloc_lt _ _ ⟨w.heap.size, 0, none⟩ (by simp)]; simp
  b1 := by rw [World.cell?_alloc_lt _ _ ⟨w.heap.size, 1, none⟩ (by simp)]; simp
  b2 := by rw [World.cell?_alloc_lt _ _ ⟨w.heap.size, 2, none⟩ (by simp)]; simp
  b3 := by rw [World.cell?_alloc_lt _ _ ⟨w.heap.size, 3, none⟩ (by simp)]; simp
  r0 := by simp
  r1 := by simp
  f0 := by simp
  f1 := by simp
theorem FaultW.next {w W W' : World} {nm : ByteArray} {len p : Int} {v : Value} (h : FaultW w W nm len p v) (hb : Below W.heap.size W W') : FaultW w W' nm len p v := by
  have hs := h.size
  have hs' := hb.size
  exact ⟨h.below.trans (hb.mono h.below.size), by omega, (hb.cell (p := ⟨_, 0, none⟩) (by simp; omega)).trans h.b0, (hb.cell (p := ⟨_, 1, none⟩) (by simp; omega)).trans h.b1, (hb.cell (p := ⟨_, 2, none⟩) (by simp; omega)).trans h.b2, (hb.cell (p := ⟨_, 3, none⟩) (by simp; omega)).trans h.b3,
    (hb.cell (p := ⟨_, 0, none⟩) (by simp; omega)).trans h.r0, (hb.cell (p := ⟨_, 1, none⟩) (by simp; omega)).trans h.r1, (hb.frozen (p := ⟨_, 0, none⟩) (by simp; omega)).trans h.f0, (hb.frozen (p := ⟨_, 1, none⟩) (by simp; omega)).trans h.f1⟩

end Go.Proofs.YtcbcjefefmbccabDoor
namespace Go.Proofs.YtcbcjefefmbccabDoor
open Go.RowKit

/- The error v has the number f.1 and the place f.2 (0: nil; -1: no place). -/
def ErrIs (w : World) (a : Nat → Addr) (v : Value) (f : Int × Int) : Prop :=
  (v = .nilIface ∧ f = (0, -1)) ∨ (∃ k : Nat, k < 12 ∧ v = sentV a k ∧ f = ((k : Int) + 1, -1)) ∨
  (∃ (k pb po : Nat) (at0 : Int), k < 12 ∧ v = .iface 62 (.pointer (some ⟨pb, po, none⟩)) ∧ w.cell? ⟨pb, po, none⟩ = some (.int .i64 at0) ∧ w.cell? ⟨pb, po + 1, none⟩ = some (sentV a k) ∧ f = ((k : Int) + 1, at0))
theorem ErrIs.below {w w' : World} {a : Nat → Addr} {v : Value} {f : Int × Int} (h : ErrIs w a v f) (hb : Below w.heap.size w w') : ErrIs w' a v f := by
  rcases h with h | h | ⟨k, pb, po, at0, hk, hv, h0, h1, hf⟩
  · exact .inl h
  · exact .inr (.inl h)
  · exact .inr (.inr ⟨k, pb, po, at0, hk, hv, (hb.cell (p := ⟨pb, po, none⟩) (lt_of_cell h0)).trans h0, (hb.cell (p := ⟨pb, po + 1, none⟩) (lt_of_cell h1)).trans h1, hf⟩)
/- The same, and a fault lies from block 'base' on. -/
def ErrIn (base : Nat) (w : World) (a : Nat → Addr) (v : Value) (f : Int × Int) : Prop :=
  (v = .nilIface ∧ f = (0, -1)) ∨ (∃ k : Nat, k < 12 ∧ v = sentV a k ∧ f = ((k : Int) + 1, -1)) ∨
  (∃ (k pb po : Nat) (at0 : Int), k < 12 ∧ base ≤ pb ∧ v = .iface 62 (.pointer (some ⟨pb, po, none⟩)) ∧ w.cell? ⟨pb, po, none⟩ = some (.int .i64 at0) ∧ w.cell? ⟨pb, po + 1, none⟩ = some (sentV a k) ∧ f = ((k : Int) + 1, at0))
theorem ErrIn.at {base : Nat} {w : World} {a : Nat → Addr} {v : Value} {f : Int × Int} (h : ErrIn base w a v f) : ErrIs w a v f := by
  rcases h with h | h | ⟨k, pb, po, at0, hk, _, hv, h0, h1, hf⟩
  · exact .inl h
  · exact .inr (.inl h)
  · exact .inr (.inr ⟨k, pb, po, at0, hk, hv, h0, h1, hf⟩)
theorem ErrIn.below {base : Nat} {w w' : World} {a : Nat → Addr} {v : Value} {f : Int × Int} (h : ErrIn base w a v f) (hb : Below w.heap.size w w') : ErrIn base w' a v f := by
  rcases h with h | h | ⟨k, pb, po, at0, hk, hl, hv, h0, h1, hf⟩
  · exact .inl h
  · exact .inr (.inl h)
  · exact .inr (.inr ⟨k, pb, po, at0, hk, hl, hv, (hb.cell (p := ⟨pb, po, none⟩) (lt_of_cell h0)).trans h0, (hb.cell (p := ⟨pb, po + 1, none⟩) (lt_of_cell h1)).trans h1, hf⟩)
theorem ErrIn.setCell {base : Nat} {w : World} {a : Nat → Addr} {v : Value} {f : Int × Int} (h : ErrIn base w a v f) {x : Addr} (hx : x.block < base) (u : Value) : ErrIn base (w.setCell x u) a v f := by
  rcases h with h | h | ⟨k, pb, po, at0, hk, hl, hv, h0, h1, hf⟩
  · exact .inl h
  · exact .inr (.inl h)
  · have hn : ∀ j, x ≠ ⟨pb, j, none⟩ := fun j e => by rw [e] at hx; simp at hx; omega
    exact .inr (.inr ⟨k, pb, po, at0, hk, hl, hv, by rw [World.cell?_setCell_other _ _ _ _ (hn _)]; exact h0, by rw [World.cell?_setCell_other _ _ _ _ (hn _)]; exact h1, hf⟩)
theorem ErrIn.nil {base : Nat} {w : World} {a : Nat → Addr} {v : Value} {x : Int} (h : ErrIn base w a v (0, x)) : v = .nilIface := by
  rcases h with h | ⟨k, _, _, hf⟩ | ⟨k, pb, po, at0, _, _, _, _, _, hf⟩
  · exact h.1
  · have := congrArg Prod.fst hf
    simp only at this
    omega
  · have := congrArg Prod.fst hf
    simp only at this
    omega
theorem ErrIs.code {w : World} {a : Nat → Addr} {v : Value} {f : Int × Int} (h : ErrIs w a v f) (hE : ErrW w a) :
    Calls Tryd.prog 28 #[v] w fun e w' => e = .returned (.tuple #[.int .i64 f.1, .int .i64 f.2]) ∧ Below w.heap.size w w' := by
  rcases h with ⟨rfl, rfl⟩ | ⟨k, hk, rfl, rfl⟩ | ⟨k, pb, po, at0, hk, rfl, h0, h1, rfl⟩
  · exact (code_nil w).mono fun e w' ⟨h1, h2⟩ => ⟨h1, by rw [h2]; exact Below.refl _ _⟩
  · exact code_sent a k hk w hE
  · exact code_fault a k hk pb po at0 w hE h0 h1

end Go.Proofs.YtcbcjefefmbccabDoor
namespace Go.Proofs.YtcbcjefefmbccabDoor
open Go.RowKit

structure ErrE (L : List Nat) (w : World) (a : Nat → Addr) : Prop where
  glob : ∀ i, L.contains i = true → w.cell? ⟨errG i, 0, none⟩ = some (sentV a i)
theorem ErrE.below {L : List Nat} {w0 w w' : World} {a : Nat → Addr} (h : ErrE L w a) (hb : Below w0.heap.size w w') (hle : w.heap.size ≤ w0.heap.size) : ErrE L w' a where
  glob i hi := by rw [hb.cell (p := ⟨errG i, 0, none⟩) (Nat.lt_of_lt_of_le (lt_of_cell (h.glob i hi)) hle)]; exact h.glob i hi
theorem ErrE.sub {L M : List Nat} {w : World} {a : Nat → Addr} (h : ErrE L w a) (hs : (M.all fun i => L.contains i) = true) : ErrE M w a where
  glob i hi := h.glob i (List.all_eq_true.1 hs i (List.contains_iff_mem.1 hi))
theorem ErrW.on {L : List Nat} {w : World} {a : Nat → Addr} (h : ErrW w a) (hl : (L.all fun i => decide (i < 12)) = true) : ErrE L w a where
  glob i hi := h.glob i (by simpa using List.all_eq_true.1 hl i (List.contains_iff_mem.1 hi))
end Go.Proofs.YtcbcjefefmbccabDoor
namespace Go.Proofs.YtcbcjefefmbccabDoor
open Go.RowKit

theorem hideN {q : Prop} (h : q) : Hid q := h
theorem frozen_alloc_lt' (w : World) (o : Obj) {b i : Nat} (h : b < w.heap.size) : (w.alloc o).frozen? ⟨b, i, none⟩ = w.frozen? ⟨b, i, none⟩ := World.frozen?_of_block (w := w) (Below.heap_alloc w o b h)
theorem new_cell (W : World) (cs : Array Value) (t : TypeId) {i B : Nat} {v : Value} (h : cs[i]? = some v) (hB : B = W.heap.size) : (W.alloc (.cells cs t)).cell? ⟨B, i, none⟩ = some v := by
  subst hB
  have h2 := World.alloc_heap_new W (.cells cs t)
  simp only [World.cell?, h2, h]
  rfl
theorem new_frozen (W : World) (cs : Array Value) (t : TypeId) {i B : Nat} (hB : B = W.heap.size) : (W.alloc (.cells cs t)).frozen? ⟨B, i, none⟩ = false := by
  subst hB
  have h2 := World.alloc_heap_new W (.cells cs t)
  simp only [World.frozen?, h2]
  simp
theorem grown_of_below {w w' : World} (h : Below w.heap.size w w') : w.grownBy w' none := ⟨h.os, h.tape, h.output, h.size, fun k hk _ => h.block k hk⟩
theorem below_of_grown {w w' : World} (h : w.grownBy w' none) : Below w.heap.size w w' := ⟨h.os, h.tape, h.output, h.size, fun k hk => h.block k hk (by simp)⟩
theorem row_below {w w' : World} {base : Nat} {e : TypeId} {size : Nat} {v : Value} {n : Nat} {xs : List Value} (h : w.ownsRow base e size v n xs) (hb : Below w.heap.size w w') : w'.ownsRow base e size v n xs := by
  refine h.kept (grown_of_below hb) ?_
  cases hv : v.ownBlock with
  | none => exact .inl rfl
  | some j => exact .inr (by simp)
/- Block B holds cs. -/
def Blk (W : World) (B : Nat) (cs : Array Value) (t : TypeId) : Prop := W.heap[B]? = some (.cells cs t (0, 0))
theorem Blk.lt {W : World} {B : Nat} {cs : Array Value} {t : TypeId} (h : Blk W B cs t) : B < W.heap.size := (Array.getElem?_eq_some_iff.1 h).1
theorem Blk.cell {W : World} {B : Nat} {cs : Array Value} {t : TypeId} (h : Blk W B cs t) {i : Nat} {u : Value} (hi : cs[i]? = some u) : W.cell? ⟨B, i, none⟩ = some u := by
  simp only [World.cell?, show W.heap[B]? = _ from h, hi]
  rfl
theorem Blk.frozen {W : World} {B : Nat} {cs : Array Value} {t : TypeId} (h : Blk W B cs t) (i : Nat) : W.frozen? ⟨B, i, none⟩ = false := by
  simp only [World.frozen?, show W.heap[B]? = _ from h]
  simp
theorem Blk.next {W W' : World} {B : Nat} {cs : Array Value} {t : TypeId} (h : Blk W B cs t) (hb : Below W.heap.size W W') : Blk W' B cs t := (hb.block B h.lt).trans h
theorem Blk.new (W : World) (cs : Array Value) (t : TypeId) : Blk (W.alloc (.cells cs t)) W.heap.size cs t := World.alloc_heap_new W _
theorem Blk.set {W : World} {B : Nat} {cs : Array Value} {t : TypeId} (h : Blk W B cs t) (i : Nat) (u : Value) : Blk (W.setCell ⟨B, i, none⟩ u) B (cs.setIfInBounds i u) t := by
  obtain ⟨hlt, hk⟩ := Array.getElem?_eq_some_iff.1 h
  show (W.heap.modify B _)[B]? = _
  rw [Array.getElem?_eq_getElem (by rw [Array.size_modify]; exact hlt), Array.getElem_modify_self, hk]
  simp
theorem Blk.other {W : World} {B : Nat} {cs : Array Value} {t : TypeId} (h : Blk W B cs t) {a : Addr} (ha : B ≠ a.block) (u : Value) : Blk (W.setCell a u) B cs t := (Below.heap_setCell W a u B ha).trans h
/- Between two block numbers nothing has turned. -/
def SameIn (lo hi : Nat) (W W' : World) : Prop := ∀ b, lo ≤ b → b < hi → W'.heap[b]? = W.heap[b]?
theorem SameIn.refl (lo hi : Nat) (W : World) : SameIn lo hi W W := fun _ _ _ => rfl
theorem SameIn.next {lo hi : Nat} {W W' W'' : World} (h : SameIn lo hi W W') (hs : hi ≤ W'.heap.size) (hb : Below W'.heap.size W' W'') : SameIn lo hi W W'' := fun b h1 h2 => (hb.block b (by omega)).trans (h b h1 h2)
theorem SameIn.setCell {lo hi : Nat} {W W' : World} (h : SameIn lo hi W W') {a : Addr} (ha : a.block < lo ∨ hi ≤ a.block) (u : Value) : SameIn lo hi W (W'.setCell a u) := fun b h1 h2 => (Below.heap_setCell W' a u b (by omega)).trans (h b h1 h2)
theorem Blk.below {W W' : World} {B n : Nat} {cs : Array Value} {t : TypeId} (h : Blk W B cs t) (hb : Below n W W') (hn : B < n) : Blk W' B cs t := (hb.block B hn).trans h
theorem SameIn.below {lo hi n : Nat} {W W' W'' : World} (h : SameIn lo hi W W') (hn : hi ≤ n) (hb : Below n W' W'') : SameIn lo hi W W'' := fun b h1 h2 => (hb.block b (by omega)).trans (h b h1 h2)
theorem SameIn.cell {lo hi : Nat} {W W' : World} (h : SameIn lo hi W W') {b : Nat} (h1 : lo ≤ b) (h2 : b < hi) (o : Nat) : W'.cell? ⟨b, o, none⟩ = W.cell? ⟨b, o, none⟩ := World.cell?_of_block (w := W) (h b h1 h2)
end Go.Proofs.YtcbcjefefmbccabDoor
namespace Go.Proofs.YtcbcjefefmbccabDoor
open Go.RowKit

/- A slice of ints that holds xs. -/
abbrev IntsC (w : World) (v : Value) (xs : List Int) : Prop := CellsAt w v (xs.map (Value.int .i64))
/- nil, or the sentinel of that number. -/
def SentO (a : Nat → Addr) (ev : Value) (c : Int) : Prop := (c = 0 ∧ ev = .nilIface) ∨ ∃ i : Nat, i < 12 ∧ c = (i : Int) + 1 ∧ ev = sentV a i
theorem below_drew_n (w : World) (q : Nat) : Below w.heap.size w (w.drewN q) := ⟨rfl, rfl, rfl, Nat.le_refl _, fun _ _ => rfl⟩
theorem isNode_any (n : Int) (w : World) : Calls Tryd.prog 22 #[.int .i64 n] w fun e w' => e = .returned (.bool (nodeOk n)) ∧ w' = w := by
  unfold nodeOk
  by_cases h1 : 1 ≤ n
  · by_cases h2 : n ≤ 6
    · rw [decide_eq_true (show 1 ≤ n ∧ n ≤ 6 from ⟨h1, h2⟩)]
      go_enter Tryd.func22, Tryd.ntmps22
      go_wp2
      go_ret
      exact ⟨rfl, rfl⟩
    · rw [decide_eq_false (show ¬ (1 ≤ n ∧ n ≤ 6) from fun h => h2 h.2)]
      go_enter Tryd.func22, Tryd.ntmps22
      go_wp2
      go_ret
      exact ⟨rfl, rfl⟩
  · rw [decide_eq_false (show ¬ (1 ≤ n ∧ n ≤ 6) from fun h => h1 h.1)]
    go_enter Tryd.func22, Tryd.ntmps22
    go_wp2
    go_ret
    exact ⟨rfl, rfl⟩
set_option maxRecDepth 100000 in
set_option maxHeartbeats 4000000 in
theorem ownCheck1_any (a : Nat → Addr) (LB : Nat) (vl : Value) (l : List Int) (k : Nat) (w : World) (hk : k < l.length) (hlen : l.length ≤ 1000) (hv : IntsC w vl l) (hL : Blk w LB #[vl] 22) (hE : ErrE [1, 7] w a) :
    Calls Tryd.prog 21 (#[.int .i64 k] ++ #[.pointer (some ⟨LB, 0, none⟩)]) w fun e w' => ∃ ev, e = .returned ev ∧ SentO a ev (nodeErr l k) ∧ Below w.heap.size w w' := by
  obtain ⟨p, c, rfl, hcell⟩ := hv
  simp only [List.length_map, List.getElem_map] at hcell hL ⊢
  obtain ⟨b, o, rfl, _, hc0⟩ := hcell k hk
  have e0 := hL.cell (i := 0) rfl
  have g1 := hE.glob 1 (by decide)
  have g7 := hE.glob 7 (by decide)
  dsimp only [errG] at g1 g7
  have hk' : (k : Int) < (l.length : Int) := by omega
  have hk0 : (0 : Int) ≤ (k : Int) := by omega
  have hne : nodeErr l k = if nodeOk l[k] = false then 2 else if 0 < k ∧ l[k] ≤ (l[k - 1]?).getD 0 then 8 else 0 := by
    unfold nodeErr
    rw [List.getElem?_eq_getElem hk]
  have HPR : Hid (∀ (h : 0 < k), w.cell? ⟨b, o + (k - 1), none⟩ = some (.int .i64 (l[k - 1]'(by omega))) ∧ (l[k - 1]?).getD 0 = l[k - 1]'(by omega)) := fun h => by
    obtain ⟨b', o', hp, _, hc⟩ := hcell (k - 1) (by omega)
    obtain ⟨rfl, rfl⟩ : b = b' ∧ o = o' := by simpa using hp
    exact ⟨hc, by rw [List.getElem?_eq_getElem (show k - 1 < l.length by omega)]; rfl⟩
  obtain ⟨x, hx⟩ : ∃ x, l[k] = x := ⟨_, rfl⟩
  rw [hx] at hc0 hne
  have HNE := hideN hne
  have hll : (l.length : Int) ≤ 1000 := by omega
  have HIS := hideN (isNode_any x w)
  clear hcell hL hE hx hne
  simp only [List.append_toArray, List.cons_append, List.nil_append]
  cases hok : nodeOk x with
  | false =>
    rw [hok] at HIS HNE
    have HR : Hid (nodeErr l k = 2) := by show _ = _; rw [HNE.out, if_pos rfl]
    clear HNE hok
    go_enter Tryd.func21, Tryd.ntmps21
    go_wp2_with fail
    refine HIS.out.mono ?_
    rintro e w1 ⟨rfl, hw1⟩
    subst hw1
    go_wp2_with fail
    go_ret
    exact ⟨_, rfl, .inr ⟨1, by decide, HR.out, rfl⟩, Below.refl _ _⟩
  | true =>
    rw [hok] at HIS HNE
    by_cases h0 : 0 < k
    · obtain ⟨hc1, hg⟩ := HPR.out h0
      obtain ⟨y, hy⟩ : ∃ y, l[k - 1]'(by omega) = y := ⟨_, rfl⟩
      rw [hy] at hc1 hg
      have HNE2 : Hid (nodeErr l k = if x ≤ y then 8 else 0) := by show _ = _; rw [HNE.out, hg, if_neg (by simp)]; simp only [h0, true_and]
      obtain ⟨m, hm⟩ : ∃ m, k - 1 = m := ⟨_, rfl⟩
      have hwm : IntKind.i64.wrap ((k : Int) - 1) = (m : Int) := by rw [IntKind.wrap_i64]; omega
      have hm0 : (0 : Int) ≤ (m : Int) := by omega
      have hml : (m : Int) < (l.length : Int) := by omega
      have h0' : (0 : Int) < (k : Int) := by omega
      rw [hm] at hc1
      clear HNE hg hy hok HPR hm
      by_cases hxy : x ≤ y
      · have HR : Hid (nodeErr l k = 8) := by show _ = _; rw [HNE2.out, if_pos hxy]
        clear HNE2
        go_enter Tryd.func21, Tryd.ntmps21
        go_wp2_with fail
        refine HIS.out.mono ?_
        rintro e w1 ⟨rfl, hw1⟩
        subst hw1
        go_wp2_with fail
        go_quiet (fail)
        have HB := hideN (below_drew_n w1 nq)
        go_wp2_with fail
        go_ret
        exact ⟨_, rfl, .inr ⟨7, by decide, HR.out, rfl⟩, HB.out⟩
      · have HR : Hid (nodeErr l k = 0) := by show _ = _; rw [HNE2.out, if_neg hxy]
        clear HNE2
        go_enter Tryd.func21, Tryd.ntmps21
        go_wp2_with fail
        refine HIS.out.mono ?_
        rintro e w1 ⟨rfl, hw1⟩
        subst hw1
        go_wp2_with fail
        go_quiet (fail)
        have HB := hideN (below_drew_n w1 nq)
        go_wp2_with fail
        go_ret
        exact ⟨_, rfl, .inl ⟨HR.out, rfl⟩, HB.out⟩
    · have h0' : ¬ (0 : Int) < (k : Int) := by omega
      have HR : Hid (nodeErr l k = 0) := by show _ = _; rw [HNE.out, if_neg (by simp), if_neg (fun h => h0 h.1)]
      clear HNE hok HPR
      go_enter Tryd.func21, Tryd.ntmps21
      go_wp2_with fail
      refine HIS.out.mono ?_
      rintro e w1 ⟨rfl, hw1⟩
      subst hw1
      go_wp2_with fail
      go_quiet (fail)
      have HB := hideN (below_drew_n w1 nq)
      go_wp2_with fail
      go_ret
      exact ⟨_, rfl, .inl ⟨HR.out, rfl⟩, HB.out⟩
set_option maxRecDepth 100000 in
set_option maxHeartbeats 4000000 in
theorem ownFirst_any (a : Nat → Addr) (LB : Nat) (vl : Value) (l : List Int) (w : World) (hlen : l.length ≤ 1000) (hv : IntsC w vl l) (hL : Blk w LB #[vl] 22) (hE : ErrE [1, 7] w a) :
    Calls Tryd.prog 20 #[.int .i64 l.length, .func (.func 21) #[] #[.pointer (some ⟨LB, 0, none⟩)]] w fun e w' => ∃ ev, e = .returned ev ∧ ErrIn w.heap.size w' a ev (nodesAns l) ∧ Below w.heap.size w w' := by
  have HC : Hid (∀ k W, k < l.length → Below w.heap.size w W → Calls Tryd.prog 21 (#[.int .i64 k] ++ #[.pointer (some ⟨LB, 0, none⟩)]) W fun e w' => ∃ ev, e = .returned ev ∧ SentO a ev (nodeErr l k) ∧ Below W.heap.size W w') :=
    fun k W hk hb => ownCheck1_any a LB vl l k W hk hlen (hv.below hb) (hL.below hb hL.lt) (hE.below hb (Nat.le_refl _))
  obtain ⟨many, hmany⟩ : ∃ many, l.length = many := ⟨_, rfl⟩
  obtain ⟨err, herr⟩ : ∃ err, nodeErr l = err := ⟨_, rfl⟩
  obtain ⟨RES, hRES⟩ : ∃ RES, fstErr err 0 many = RES := ⟨_, rfl⟩
  have hna : nodesAns l = ansAt err RES := by
    unfold nodesAns fstAns
    rw [herr, hmany, hRES]
  have HNA := hideN hna
  have hm' : (many : Int) ≤ 1000 := by omega
  have HRES := hideN hRES
  rw [hmany, herr] at HC
  rw [hmany]
  clear hRES hna hmany herr hlen hv hL hE
  go_enter Tryd.func20, Tryd.ntmps20
  go_wp2_with fail
  go_loopw [8] (fun iv wr => ∃ (k : Nat), k ≤ many ∧ iv = .int .i64 k ∧ Hid (fstErr err k (many - k) = RES) ∧ Hid (Below w.heap.size w wr)) (fun iv _ => many - (intOf iv).toNat)
  case atStart => exact ⟨0, Nat.zero_le _, rfl, HRES.out, Below.refl _ _⟩
  case round =>
    obtain ⟨k, hk, rfl, HR, HB⟩ := hrel
    by_cases hlt : k < many
    · have hlt' : (k : Int) < (many : Int) := by omega
      have HCK := hideN (HC.out k wr hlt HB.out)
      have hsub : many - k = (many - (k + 1)) + 1 := by omega
      rw [hsub, fstErr] at HR
      clear hsub
      go_wp2_with fail
      refine HCK.out.mono ?_
      rintro e w2 ⟨ev2, rfl, he2, hb2⟩
      have HB2 : Hid (Below w.heap.size w w2) := HB.out.trans (hb2.mono HB.out.size)
      clear hb2 HCK
      rcases he2 with ⟨h0, rfl⟩ | ⟨i, hi, h0, rfl⟩
      · rw [if_neg (by rw [h0]; simp)] at HR
        clear h0
        go_wp2_with fail
        go_roundw
        case rel => exact ⟨k + 1, hlt, by go_num, HR.out, HB2.out⟩
        case measure => simp [intOf]; omega
      · have hne : err k ≠ 0 := by rw [h0]; omega
        rw [if_pos hne] at HR
        have HQ := hideN h0
        have HIL := hideN hi
        clear h0 hne hi
        go_wp2_with fail
        go_ret
        refine ⟨_, rfl, ?_, HB2.out.alloc HB2.out.size _⟩
        rw [HNA.out, ← HR.out]
        exact .inr (.inr ⟨i, w2.heap.size, 0, (k : Int), HIL.out, HB2.out.size, rfl, new_cell _ _ _ rfl rfl, new_cell _ _ _ rfl rfl, by show (err k, (k : Int)) = _; rw [HQ.out]⟩)
    · have hge : (many : Int) ≤ (k : Int) := by omega
      have hz : many - k = 0 := by omega
      rw [hz, fstErr] at HR
      clear hz
      go_wp2_with fail
      go_ret
      refine ⟨_, rfl, ?_, HB.out⟩
      rw [HNA.out, ← HR.out]
      exact .inl ⟨rfl, rfl⟩
set_option maxRecDepth 100000 in
set_option maxHeartbeats 4000000 in
theorem ownCheck_any (a : Nat → Addr) (vl : Value) (l : List Int) (w : World) (hlen : l.length ≤ 1000) (hv : IntsC w vl l) (hE : ErrE [1, 4, 7] w a) :
    Calls Tryd.prog 6 #[vl] w fun e w' => ∃ ev, e = .returned ev ∧ ErrIn w.heap.size w' a ev (checkAns' l) ∧ Below w.heap.size w w' := by
  have hal := (Below.refl w.heap.size w).alloc (Nat.le_refl _) (.cells #[vl] 22)
  have HF := hideN (ownFirst_any a w.heap.size vl l (w.alloc (.cells #[vl] 22)) hlen (hv.below hal) (Blk.new w #[vl] 22) ((hE.sub (M := [1, 7]) (by decide)).below hal (Nat.le_refl _)))
  have HAL := hideN hal
  have g4 := hE.glob 4 (by decide)
  have hg4 := lt_of_cell g4
  dsimp only [errG] at g4 hg4
  obtain ⟨p, c, rfl, _⟩ := hv
  simp only [List.length_map] at HF HAL ⊢
  clear hal hE
  by_cases h0 : l.length = 0
  · have hr : checkAns' l = (5, -1) := by unfold checkAns'; rw [if_pos h0]
    rw [h0] at HF HAL ⊢
    rw [hr]
    clear HF hr h0
    go_enter Tryd.func6, Tryd.ntmps6
    go_wp2_with fail
    go_ret
    exact ⟨_, rfl, .inr (.inl ⟨4, by decide, rfl, rfl⟩), HAL.out⟩
  · have hr : checkAns' l = nodesAns l := by unfold checkAns'; rw [if_neg h0]
    rw [hr]
    have hz : ((l.length : Int) == 0) = false := beq_eq_false_iff_ne.2 (by omega)
    have hll : (l.length : Int) ≤ 1000 := by omega
    clear hr h0
    go_enter Tryd.func6, Tryd.ntmps6
    go_wp2_with fail
    refine HF.out.mono ?_
    rintro e w1 ⟨ev, rfl, hev, hb⟩
    have HEV : Hid (ErrIn w.heap.size w1 a ev (nodesAns l)) := by
      rcases hev with h | h | ⟨k, pb, po, at0, h1, h2, h3⟩
      · exact .inl h
      · exact .inr (.inl h)
      · exact .inr (.inr ⟨k, pb, po, at0, h1, Nat.le_trans HAL.out.size h2, h3⟩)
    have HB : Hid (Below w.heap.size w w1) := HAL.out.trans (hb.mono HAL.out.size)
    clear hev hb HF
    go_wp2_with fail
    go_ret
    exact ⟨_, rfl, HEV.out, HB.out⟩
end Go.Proofs.YtcbcjefefmbccabDoor
namespace Go.Proofs.YtcbcjefefmbccabDoor
open Go.RowKit

abbrev intV (x : Int) : Value := .int .i64 x
/- A slice of ints that holds xs, and can be cut. -/
def IntsS (w : World) (v : Value) (xs : List Int) : Prop :=
  (xs = [] ∧ v = .slice none 0 0) ∨ ∃ b o c, v = .slice (some ⟨b, o, none⟩) xs.length c ∧ xs.length ≤ c ∧ b < w.heap.size ∧ ∀ i (h : i < xs.length), w.cell? ⟨b, o + i, none⟩ = some (.int .i64 xs[i])
theorem IntsS.c {w : World} {v : Value} {xs : List Int} (h : IntsS w v xs) : IntsC w v xs := by
  rcases h with ⟨rfl, rfl⟩ | ⟨b, o, c, rfl, hc, hb, hcell⟩
  · exact ⟨none, 0, rfl, fun i hi => by simp at hi⟩
  · refine ⟨some ⟨b, o, none⟩, c, by rw [List.length_map], fun i hi => ⟨b, o, rfl, ⟨hb, by rw [List.length_map]; exact hc⟩, ?_⟩⟩
    rw [List.getElem_map]
    exact hcell i (by simpa using hi)
theorem IntsS.below {w w' : World} {v : Value} {xs : List Int} (h : IntsS w v xs) (hb : Below w.heap.size w w') : IntsS w' v xs := by
  rcases h with h | ⟨b, o, c, rfl, hc, hlt, hcell⟩
  · exact .inl h
  · exact .inr ⟨b, o, c, rfl, hc, Nat.lt_of_lt_of_le hlt hb.size, fun i hi => (hb.cell (p := ⟨b, o + i, none⟩) hlt).trans (hcell i hi)⟩
theorem IntsS.of_row {w : World} {base : Nat} {e : TypeId} {v : Value} {n : Nat} {xs : List Int} (h : w.ownsRow base e 1 v n (xs.map intV)) : IntsS w v xs := by
  have hl := h.1
  rw [List.length_map, Nat.mul_one] at hl
  obtain ⟨p, c, hv, hcell⟩ := CellsAt.of_row h
  rcases h.2 with ⟨rfl, h0⟩ | ⟨g, cap, cur, rfl, hg, hb, h1, h2, h3, h4⟩
  · exact .inl ⟨List.length_eq_zero_iff.1 (by omega), rfl⟩
  · have hlt : g < w.heap.size := by
      rcases Nat.lt_or_ge g w.heap.size with h' | h'
      · exact h'
      · simp [Array.getElem?_eq_none h'] at hb
    rw [List.length_map] at hv
    have hv' : some ⟨g, 0, none⟩ = p ∧ n = xs.length ∧ cap = c := by simpa using hv
    obtain ⟨rfl, _, rfl⟩ := hv'
    refine .inr ⟨g, 0, cap, by rw [hl], by omega, hlt, fun i hi => ?_⟩
    obtain ⟨b', o', hp, _, hc⟩ := hcell i (by simpa using hi)
    obtain ⟨rfl, rfl⟩ : g = b' ∧ 0 = o' := by simpa using hp
    rw [List.getElem_map] at hc
    exact hc
theorem IntsS.of_c {w : World} {v : Value} {xs : List Int} (h : IntsC w v xs) (hne : xs ≠ []) : IntsS w v xs := by
  obtain ⟨p, c, rfl, hcell⟩ := h
  have hpos : 0 < (xs.map intV).length := by rw [List.length_map]; exact List.length_pos_iff.2 hne
  obtain ⟨b, o, rfl, ⟨hlt, hc⟩, _⟩ := hcell 0 hpos
  refine .inr ⟨b, o, c, by rw [List.length_map], by simpa using hc, hlt, fun i hi => ?_⟩
  obtain ⟨b', o', hp, _, hc⟩ := hcell i (by simpa using hi)
  obtain ⟨rfl, rfl⟩ : b = b' ∧ o = o' := by simpa using hp
  rw [List.getElem_map] at hc
  exact hc
theorem slI_from (b o n c i : Nat) (hi : i ≤ n) (hc : n ≤ c) (j : Int) (hj : j = (i : Int)) : ∃ o4 c4, (∀ w : World, (Instr.slice 22 (.slice (some ⟨b, o, none⟩) n c) (some (.int .i64 j)) none none).run Tryd.prog w = .ok (.slice (some ⟨b, o4, none⟩) (n - i) c4) w) ∧ n - i ≤ c4 ∧ (i < n → o4 = o + i) := by
  subst hj
  have hj1 : (0 : Int) ≤ (i : Int) := by omega
  have hj2 : (i : Int) ≤ (n : Int) := by omega
  by_cases hcap : c = i
  · refine ⟨o, c - i, fun w => ?_, by omega, fun h => by omega⟩
    go_simp
  · by_cases h0 : i = 0
    · subst h0
      refine ⟨o, c - 0, fun w => ?_, by omega, fun h => by simp⟩
      go_simp
    · refine ⟨o + i, c - i, fun w => ?_, by omega, fun h => rfl⟩
      go_simp
theorem slI_upto (b o n c i : Nat) (hi : i ≤ n) (hc : n ≤ c) : ∀ w : World, (Instr.slice 22 (.slice (some ⟨b, o, none⟩) n c) none (some (.int .i64 (i : Int))) none).run Tryd.prog w = .ok (.slice (some ⟨b, o, none⟩) i c) w := by
  have hj1 : (0 : Int) ≤ (i : Int) := by omega
  have hj3 : (i : Int) ≤ (c : Int) := by omega
  intro w
  go_simp
theorem slI_none_from : ∀ w : World, (Instr.slice 22 (.slice none 0 0) (some (.int .i64 0)) none none).run Tryd.prog w = .ok (.slice none 0 0) w := fun w => by go_simp
theorem slI_none_upto : ∀ w : World, (Instr.slice 22 (.slice none 0 0) none (some (.int .i64 0)) none).run Tryd.prog w = .ok (.slice none 0 0) w := fun w => by go_simp
set_option maxHeartbeats 2000000 in
theorem cutAt1_any (LB NB : Nat) (vl : Value) (l : List Int) (n : Int) (k : Nat) (w : World) (hk : k < l.length) (hlen : l.length ≤ 1000) (hv : IntsC w vl l) (hL : Blk w LB #[vl] 22) (hN : Blk w NB #[.int .i64 n] 3) :
    Calls Tryd.prog 39 (#[.int .i64 k] ++ #[.pointer (some ⟨LB, 0, none⟩), .pointer (some ⟨NB, 0, none⟩)]) w fun e w' => e = .returned (.bool (decide (n ≤ l[k]))) ∧ Below w.heap.size w w' := by
  obtain ⟨p, c, rfl, hcell⟩ := hv
  simp only [List.length_map, List.getElem_map] at hcell hL
  obtain ⟨b, o, rfl, _, hc0⟩ := hcell k hk
  have e0 := hL.cell (i := 0) rfl
  have n0 := hN.cell (i := 0) rfl
  have hk' : (k : Int) < (l.length : Int) := by omega
  have hk0 : (0 : Int) ≤ (k : Int) := by omega
  have hll : (l.length : Int) ≤ 1000 := by omega
  obtain ⟨x, hx⟩ : ∃ x, l[k] = x := ⟨_, rfl⟩
  rw [hx] at hc0 ⊢
  clear hcell hx hL hN
  simp only [List.append_toArray, List.cons_append, List.nil_append]
  go_enter Tryd.func39, Tryd.ntmps39
  go_wp2_with fail
  go_quiet (fail)
  have HB := hideN (below_drew_n w nq)
  go_wp2_with fail
  go_ret
  exact ⟨rfl, HB.out⟩
set_option maxRecDepth 100000 in
set_option maxHeartbeats 4000000 in
theorem search_any (LB NB : Nat) (vl : Value) (l : List Int) (n : Int) (w : World) (hn : Nodes l) (hv : IntsC w vl l) (hL : Blk w LB #[vl] 22) (hN : Blk w NB #[.int .i64 n] 3) :
    Calls Tryd.prog 38 #[.int .i64 l.length, .func (.func 39) #[] #[.pointer (some ⟨LB, 0, none⟩), .pointer (some ⟨NB, 0, none⟩)]] w fun e w' => e = .returned (.int .i64 (nPlace l n)) ∧ Below w.heap.size w w' := by
  have hlen := hn.length
  have HC : Hid (∀ k (hk : k < l.length) W, Below w.heap.size w W → Calls Tryd.prog 39 (#[.int .i64 k] ++ #[.pointer (some ⟨LB, 0, none⟩), .pointer (some ⟨NB, 0, none⟩)]) W fun e w' => e = .returned (.bool (decide (n ≤ l[k]))) ∧ Below W.heap.size W w') :=
    fun k hk W hb => cutAt1_any LB NB vl l n k W hk (by omega) (hv.below hb) (hL.below hb hL.lt) (hN.below hb hN.lt)
  have HLT : Hid (∀ k (hk : k < l.length), k < nPlace l n ↔ l[k] < n) := fun k hk => by
    constructor
    · intro h
      exact nPlace_lt h
    · intro h
      rcases Nat.lt_or_ge k (nPlace l n) with h1 | h1
      · exact h1
      · have := nPlace_ge hn hk h1
        omega
  have HPL := hideN (nPlace_le l n)
  obtain ⟨P, hP⟩ : ∃ P, nPlace l n = P := ⟨_, rfl⟩
  rw [hP] at HLT HPL ⊢
  have hll : (l.length : Int) ≤ 6 := by omega
  obtain ⟨m, hm⟩ : ∃ m, l.length = m := ⟨_, rfl⟩
  have HM := hideN hm
  rw [hm] at hll HPL ⊢
  clear hm hP hlen hv hL hN hn
  go_enter Tryd.func38, Tryd.ntmps38
  go_wp2_with fail
  go_loopw [5, 6] (fun iv jv wr => ∃ lo hi : Nat, iv = .int .i64 lo ∧ jv = .int .i64 hi ∧ lo ≤ hi ∧ hi ≤ m ∧ lo ≤ P ∧ P ≤ hi ∧ Hid (Below w.heap.size w wr)) (fun iv jv _ => (intOf jv).toNat - (intOf iv).toNat)
  case atStart => exact ⟨0, m, rfl, rfl, Nat.zero_le _, Nat.le_refl _, Nat.zero_le _, HPL.out, Below.refl _ _⟩
  case round =>
    obtain ⟨lo, hi, rfl, rfl, hlh, hin, hlp, hph, HB⟩ := hrel
    by_cases hlt : lo < hi
    · have hlt' : (lo : Int) < (hi : Int) := by omega
      have hmid : (lo + hi) / 2 < l.length := by have := HM.out; omega
      have hc := HC.out ((lo + hi) / 2) hmid wr HB.out
      have HL := hideN (HLT.out ((lo + hi) / 2) hmid)
      rw [show (((lo + hi) / 2 : Nat) : Int) = ((lo : Int) + (hi : Int)) / 2 by omega] at hc
      have hh : hi ≤ 6 := by omega
      by_cases hp : n ≤ l[(lo + hi) / 2]
      · rw [decide_eq_true hp] at hc
        have HQ : Hid (P ≤ (lo + hi) / 2) := by
          have := HL.out
          show _ ≤ _
          rcases Nat.lt_or_ge ((lo + hi) / 2) P with h | h
          · have := this.1 h
            omega
          · exact h
        have HCK := hideN hc
        clear hp hc HL
        go_wp2_with fail
        refine HCK.out.mono ?_
        rintro e w2 ⟨rfl, hb2⟩
        have HB2 : Hid (Below w.heap.size w w2) := HB.out.trans (hb2.mono HB.out.size)
        clear hb2
        go_wp2_with fail
        go_roundw
        case rel => exact ⟨lo, (lo + hi) / 2, rfl, by rw [show ((lo : Int) + (hi : Int)) / 2 = (((lo + hi) / 2 : Nat) : Int) by omega], by omega, by omega, hlp, HQ.out, HB2.out⟩
        case measure => simp [intOf]; omega
      · rw [decide_eq_false hp] at hc
        have HQ : Hid ((lo + hi) / 2 + 1 ≤ P) := HL.out.2 (by omega)
        have HCK := hideN hc
        clear hp hc HL
        go_wp2_with fail
        refine HCK.out.mono ?_
        rintro e w2 ⟨rfl, hb2⟩
        have HB2 : Hid (Below w.heap.size w w2) := HB.out.trans (hb2.mono HB.out.size)
        clear hb2
        go_wp2_with fail
        go_roundw
        case rel => exact ⟨(lo + hi) / 2 + 1, hi, by rw [show ((lo : Int) + (hi : Int)) / 2 + 1 = (((lo + hi) / 2 + 1 : Nat) : Int) by omega], rfl, by omega, hin, HQ.out, hph, HB2.out⟩
        case measure => simp [intOf]; omega
    · obtain rfl : lo = hi := by omega
      obtain rfl : lo = P := by omega
      go_wp2_with fail
      go_ret
      exact ⟨rfl, HB.out⟩
end Go.Proofs.YtcbcjefefmbccabDoor
