/-
  Own text. From what a row lists of the sentinels and of errors' handle ('laid') to what the walks ask of the world ('ErrW').
  Own text. Recipes, pure: names, a recipe's fault; and the document's IsName, Bare, Fine by contracts.
  Own text. A recipe's fault, pure, and the document's RecipeFault by a contract.
  Own text. Errors by their numbers and places, in one word (ErrIs); faulted and coded at the right ones by contracts; LongRecipe.
  Own text. Some of the sentinels, as the world holds them: those of a list (ErrE), whatever the others are.
  Own text. From what a row lists of the eight sentinels that packages node, recipe and bin name at put and get ('laid') to ErrE.
-/
import Derived.Test.YtcbcjefefmbccaaDoorRows
import Derived.Test.YtcbcjefefmbccaaDoorG01
import Derived.LaidLaws
import Derived.LaidHandle
import Derived.LaidSub
import Derived.Stop.LaidErr
import Derived.Stop.Joined
import Derived.Test.YtcbcjefefmbccaaDoorChecked
import Derived.WalkKit
import Derived.Lib.Strings
import Derived.BigQuiet
import Derived.MakeChecks
namespace Go.Proofs.YtcbcjefefmbccaaDoor
open Go.RowKit Go.ChangeShapes

/- A listed sentinel. -/
abbrev sentD (x : String × Nat × List UInt8) : String × DataW Unit := (x.1, .iface "*errors.errorString" (.ptr (.agg [.lit (.string x.2.2)])))

/- However many listed sentinels of one type: each variable holds a pointer, its row bears the frozen range (0, 0), no two are one. -/
theorem sents_of_laid {P : Program} {W : World} {ti tp te ts : TypeId} {ms : Array (String × TypeId)} {f : Field}
    (hi : P.underlying ti = some (.interface ms)) (hrow : ∀ u, P.typeName? 3 u = some "*errors.errorString" → u = tp)
    (hp : P.underlying tp = some (.pointer te)) (he : P.underlying te = some (.struct #[f])) (hft : f.type = ts) (hfo : f.offset = 0) (hs : P.underlying ts = some .string) (hc : P.cellsOf te = 1) (hcs : P.cellsOf ts = 1) :
    ∀ (l : List (String × Nat × List UInt8)) (ps : List MemPlace), (∀ x ∈ l, P.globalNamed x.1 = some x.2.1 ∧ (P.globals[x.2.1]?).map (·.type) = some ti) →
      DataW.LaidVars P W (l.map sentD) ps → ps.Nodup →
      (∀ b off, MemPlace.cell b off ∈ ps → (∃ c t, W.heap[b]? = some (.cells c t (0, 0))) ∧ ∀ u v, W.cell? ⟨b, off, none⟩ = some (.iface u v) → Value.okWide P W .any 0 u v) →
      ∃ a : Nat → Addr, (∀ i (h : i < l.length), W.cell? ⟨l[i].2.1, 0, none⟩ = some (.iface tp (.pointer (some (a i)))) ∧ MemPlace.cell (a i).block (a i).off ∈ ps ∧ ∃ c t, W.heap[(a i).block]? = some (.cells c t (0, 0))) ∧
        ∀ i j, i < l.length → j < l.length → a i = a j → i = j
  | [], _, _, _, _, _ => ⟨fun _ => ⟨0, 0, none⟩, fun i h => absurd h (by simp), fun i j h => absurd h (by simp)⟩
  | x :: l, ps, hall, hv, hnd, hrows => by
    obtain ⟨g0, t0, cs0, f0, p0, q0, hg0, ht0, hv0, hd0, hq, rfl⟩ := hv
    obtain ⟨hgx, htx⟩ := hall x (List.mem_cons_self ..)
    obtain rfl := Option.some.inj (hgx.symm.trans hg0)
    obtain rfl := Option.some.inj (htx.symm.trans ht0)
    obtain ⟨l0⟩ := cs0
    have ok0 : ∀ u v, l0 = [.iface u v] → Value.okWide P W .any 0 u v := fun u v e => by
      subst e
      exact (hrows x.2.1 0 (by simp [MemPlace.row])).2 u v (by simpa using World.var?_cell hg0 hv0 0)
    obtain ⟨a0, s0, rfl, hc0, hs0, hz0, rfl⟩ := errorString_of_trod hi hrow hp he hft hfo hs hc hcs hd0 ok0
    have hmem0 : MemPlace.cell a0.block a0.off ∈ MemPlace.row a0 1 := by simp [MemPlace.row]
    obtain ⟨hnd1, hnd2, hdis⟩ := List.nodup_append.1 hnd
    obtain ⟨a, ha, hne⟩ := sents_of_laid hi hrow hp he hft hfo hs hc hcs l q0 (fun y hy => hall y (List.mem_cons_of_mem _ hy)) hq hnd2 (fun b off hm => hrows b off (List.mem_append_right _ hm))
    refine ⟨fun i => match i with | 0 => a0 | i + 1 => a i, ?_, ?_⟩
    · intro i h
      cases i with
      | zero => exact ⟨by simpa using World.var?_cell hg0 hv0 0, List.mem_append_left _ (List.mem_append_right _ hmem0), (hrows a0.block a0.off (List.mem_append_left _ (List.mem_append_right _ hmem0))).1⟩
      | succ i =>
        obtain ⟨h1, h2, h3⟩ := ha i (by simpa using h)
        exact ⟨h1, List.mem_append_right _ h2, h3⟩
    · intro i j hi' hj' e
      cases i with
      | zero =>
        cases j with
        | zero => rfl
        | succ j =>
          exfalso
          simp only at e
          have h2 := (ha j (by simpa using hj')).2.1
          rw [← e] at h2
          exact hdis _ (List.mem_append_right _ hmem0) _ h2 rfl
      | succ i =>
        cases j with
        | zero =>
          exfalso
          simp only at e
          have h2 := (ha i (by simpa using hi')).2.1
          rw [e] at h2
          exact hdis _ (List.mem_append_right _ hmem0) _ h2 rfl
        | succ j => rw [hne i j (by simpa using hi') (by simpa using hj') e]

def errSents : List (String × Nat × List UInt8) := [("cornbin/api.ErrText", 0, [99, 111, 114, 110, 98, 105, 110, 58, 32, 116, 101, 120, 116]), ("cornbin/api.ErrBound", 1, [99, 111, 114, 110, 98, 105, 110, 58, 32, 98, 111, 117, 110, 100]),
  ("cornbin/api.ErrShape", 2, [99, 111, 114, 110, 98, 105, 110, 58, 32, 115, 104, 97, 112, 101]), ("cornbin/api.ErrName", 3, [99, 111, 114, 110, 98, 105, 110, 58, 32, 110, 97, 109, 101]),
  ("cornbin/api.ErrNone", 4, [99, 111, 114, 110, 98, 105, 110, 58, 32, 110, 111, 110, 101]), ("cornbin/api.ErrExist", 5, [99, 111, 114, 110, 98, 105, 110, 58, 32, 101, 120, 105, 115, 116]),
  ("cornbin/api.ErrFull", 6, [99, 111, 114, 110, 98, 105, 110, 58, 32, 102, 117, 108, 108]), ("cornbin/api.ErrOrder", 7, [99, 111, 114, 110, 98, 105, 110, 58, 32, 111, 114, 100, 101, 114]),
  ("cornbin/api.ErrSum", 8, [99, 111, 114, 110, 98, 105, 110, 58, 32, 115, 117, 109]), ("cornbin/api.ErrClash", 9, [99, 111, 114, 110, 98, 105, 110, 58, 32, 99, 108, 97, 115, 104]),
  ("cornbin/api.ErrUsed", 10, [99, 111, 114, 110, 98, 105, 110, 58, 32, 117, 115, 101, 100]), ("cornbin/api.ErrOff", 11, [99, 111, 114, 110, 98, 105, 110, 58, 32, 111, 102, 102])]
def errLaid : List (String × DataW Unit) := ("errors.errorType", .iface "internal/reflectlite.rtype" (.agg [.ptr (.lit (.string [101, 114, 114, 111, 114]))])) :: errSents.map sentD

theorem lEt : Tryd.prog.globalNamed "errors.errorType" = some 12 := by kernel_rfl
theorem lRt : (Tryd.prog.cutTypes.find? (·.1 == "internal/reflectlite.rtype")).map (·.2) = some 182 := by kernel_rfl
theorem lOneRow : ((List.range 267).filter fun t => Tryd.prog.rowNamed t [101, 114, 114, 111, 114]) = [ 25 ] := by kernel_rfl
theorem lSize : Tryd.prog.types.size = 267 := by kernel_rfl
theorem lRowE : ∀ u, Tryd.prog.typeName? 3 u = some "*errors.errorString" → u = 98 := typeName_ptr_named (nm := "errors.errorString") (by kernel_rfl) (by kernel_rfl) (by decide)
theorem lCellsE : Tryd.prog.cellsOf 100 = 1 := by kernel_rfl
theorem lCellsS : Tryd.prog.cellsOf 9 = 1 := by kernel_rfl
theorem lAll : (errSents.all fun x => Tryd.prog.globalNamed x.1 == some x.2.1 && (Tryd.prog.globals[x.2.1]?).map (·.type) == some 25) = true := by kernel_rfl

theorem errW_of_laid {W : World} (h : laidMetH Tryd.prog errLaid W) : ∃ a, ErrW W a := by
  have h' : laidMet Tryd.prog (errSents.map sentD) W ∧ handlesMet Tryd.prog [("errors.errorType", .iface "internal/reflectlite.rtype" (.agg [.ptr (.lit (.string [101, 114, 114, 111, 114]))]))] W := h
  obtain ⟨⟨ps, hv, hnd, hrows⟩, hh⟩ := h'
  obtain ⟨a, ha, hne⟩ := sents_of_laid (P := Tryd.prog) Tryd.underlying25 lRowE Tryd.underlying98 Tryd.underlying100 rfl rfl Tryd.underlying9 lCellsE lCellsS errSents ps
    (fun x hx => by have := List.all_eq_true.1 lAll x hx; simpa using this) hv hnd hrows
  refine ⟨a, ⟨?_, fun i hi => (ha i hi).2.2, hne, ?_⟩⟩
  · intro i hi
    have : i = 0 ∨ i = 1 ∨ i = 2 ∨ i = 3 ∨ i = 4 ∨ i = 5 ∨ i = 6 ∨ i = 7 ∨ i = 8 ∨ i = 9 ∨ i = 10 ∨ i = 11 := by omega
    rcases this with rfl | rfl | rfl | rfl | rfl | rfl | rfl | rfl | rfl | rfl | rfl | rfl <;> exact (ha _ hi).1
  · obtain ⟨name, u, ty, e1, e2, e3, e4, e5⟩ := hh _ (List.mem_singleton.2 rfl)
    have en : name = [101, 114, 114, 111, 114] := (Option.some.inj e1).symm
    subst en
    obtain rfl := Option.some.inj (lRt.symm.trans e2)
    have hm : ty ∈ (List.range 267).filter fun t => Tryd.prog.rowNamed t [101, 114, 114, 111, 114] := List.mem_filter.2 ⟨List.mem_range.2 (by rw [← lSize]; exact e3), e4⟩
    rw [lOneRow] at hm
    obtain rfl := List.mem_singleton.1 hm
    have hth : typeHandle Tryd.prog 25 = .pointer (some ⟨17, 25, none⟩) := by kernel_rfl
    rw [hth] at e5
    simpa using World.var?_cell lEt e5 0
end Go.Proofs.YtcbcjefefmbccaaDoor
namespace Go.Proofs.YtcbcjefefmbccaaDoor
open Go.RowKit

def nameByte (c : UInt8) : Bool := decide ((97 ≤ c.toNat ∧ c.toNat ≤ 122) ∨ (48 ≤ c.toNat ∧ c.toNat ≤ 57) ∨ c.toNat = 46 ∨ c.toNat = 45)
def isName (l : List UInt8) : Bool := l.all nameByte && (decide (1 ≤ l.length) && decide (l.length ≤ 12))
theorem isName_bad {l : List UInt8} {k : Nat} {c : UInt8} (h : l[k]? = some c) (hc : nameByte c = false) : isName l = false := by
  unfold isName
  rw [Bool.and_eq_false_iff]
  left
  rw [List.all_eq_false]
  exact ⟨c, List.mem_of_getElem? h, by rw [hc]; simp⟩
theorem nameTo_next {l : List UInt8} {k : Nat} {c : UInt8} (h : (l.take k).all nameByte = true) (hg : l[k]? = some c) (hc : nameByte c = true) : (l.take (k + 1)).all nameByte = true := by
  obtain ⟨hk, rfl⟩ := List.getElem?_eq_some_iff.1 hg
  rw [List.take_succ_eq_append_getElem hk, List.all_append, h]
  simp [hc]
theorem cases8 (x : Int) : x < 45 ∨ x = 45 ∨ x = 46 ∨ x = 47 ∨ (48 ≤ x ∧ x ≤ 57) ∨ (58 ≤ x ∧ x ≤ 96) ∨ (97 ≤ x ∧ x ≤ 122) ∨ 123 ≤ x := by
  rcases Int.lt_or_le x 45 with h | h
  · exact .inl h
  · omega

abbrev faultV (c a : Int) : Value := .agg #[.int .i64 c, .int .i64 a]
end Go.Proofs.YtcbcjefefmbccaaDoor
namespace Go.Proofs.YtcbcjefefmbccaaDoor
open Go.RowKit

/- v is a slice of IDs. -/
def IdsAt (w : World) (v : Value) (ids : List (Nat × Int)) : Prop :=
  ∃ (p : Option Addr) (c : Nat), v = .slice p ids.length c ∧ ∀ i (h : i < ids.length), ∃ b o, p = some ⟨b, o, none⟩ ∧ b < w.heap.size ∧ w.cell? ⟨b, o + i * 2, none⟩ = some (.int .u32 (ids[i].1 : Nat)) ∧ w.cell? ⟨b, o + i * 2 + 1, none⟩ = some (.int .i64 ids[i].2)
theorem IdsAt.below {w w' : World} {v : Value} {ids : List (Nat × Int)} (h : IdsAt w v ids) (hb : Below w.heap.size w w') : IdsAt w' v ids := by
  obtain ⟨p, c, rfl, h⟩ := h
  refine ⟨p, c, rfl, fun i hi => ?_⟩
  obtain ⟨b, o, hp, hlt, h1, h2⟩ := h i hi
  exact ⟨b, o, hp, Nat.lt_of_lt_of_le hlt hb.size, (hb.cell (p := ⟨b, o + i * 2, none⟩) hlt).trans h1, (hb.cell (p := ⟨b, o + i * 2 + 1, none⟩) hlt).trans h2⟩
abbrev rcpV (nm : ByteArray) (len p : Int) (v : Value) : Value := .agg #[.string nm, .int .i64 len, .int .u32 p, v]

def idOk (x : Nat × Int) : Bool := decide (1 ≤ x.2 ∧ x.2 ≤ 64)
def firstBad : Nat → List (Nat × Int) → Option Nat
  | _, [] => none
  | i, x :: r => if idOk x = true then firstBad (i + 1) r else some i
def lenSum (ids : List (Nat × Int)) : Int := (ids.map (·.2)).sum
def recFault (nm : List UInt8) (len : Int) (ids : List (Nat × Int)) : Int × Int :=
  if isName nm = false then (4, -1) else if len < 0 ∨ 4000 < len then (2, -1) else if 250 < ids.length then (7, -1) else
    match firstBad 0 ids with
    | some i => (3, (i : Int))
    | none => if lenSum ids = len then (0, -1) else (9, -1)
theorem firstBad_at : ∀ (ids : List (Nat × Int)) (i k : Nat) (h : k < ids.length), (∀ j (hj : j < k), idOk (ids[j]'(by omega)) = true) → idOk ids[k] = false → firstBad i ids = some (i + k)
  | [], _, _, h, _, _ => by simp at h
  | x :: r, i, 0, _, _, hb => by
    have hb' : idOk x = false := hb
    rw [firstBad, hb']
    rfl
  | x :: r, i, k + 1, h, ha, hb => by
    have h0 : idOk x = true := ha 0 (by omega)
    rw [firstBad, if_pos h0, firstBad_at r (i + 1) k (by simpa using h) (fun j hj => by have := ha (j + 1) (by omega); simpa using this) (by simpa using hb)]
    congr 1
    omega
theorem firstBad_none : ∀ (ids : List (Nat × Int)) (i : Nat), (∀ j (hj : j < ids.length), idOk ids[j] = true) → firstBad i ids = none
  | [], _, _ => rfl
  | x :: r, i, ha => by
    have h0 : idOk x = true := ha 0 (by simp)
    rw [firstBad, if_pos h0, firstBad_none r (i + 1) (fun j hj => by have := ha (j + 1) (by simpa using hj); simpa using this)]
theorem lenSum_snoc (ids : List (Nat × Int)) (k : Nat) (h : k < ids.length) : lenSum (ids.take (k + 1)) = lenSum (ids.take k) + ids[k].2 := by
  rw [List.take_succ_eq_append_getElem h, lenSum, List.map_append, List.sum_append]
  simp [lenSum]
theorem recFault_name {nm : List UInt8} (len : Int) (ids : List (Nat × Int)) (h : isName nm = false) : recFault nm len ids = (4, -1) := by unfold recFault; rw [if_pos h]
theorem recFault_len {nm : List UInt8} {len : Int} (ids : List (Nat × Int)) (h : isName nm = true) (h2 : len < 0 ∨ 4000 < len) : recFault nm len ids = (2, -1) := by
  unfold recFault
  rw [if_neg (by rw [h]; simp), if_pos h2]
theorem recFault_many {nm : List UInt8} {len : Int} {ids : List (Nat × Int)} (h : isName nm = true) (h2 : ¬ (len < 0 ∨ 4000 < len)) (h3 : 250 < ids.length) : recFault nm len ids = (7, -1) := by
  unfold recFault
  rw [if_neg (by rw [h]; simp), if_neg h2, if_pos h3]
theorem recFault_shape {nm : List UInt8} {len : Int} {ids : List (Nat × Int)} (h : isName nm = true) (h2 : ¬ (len < 0 ∨ 4000 < len)) (h3 : ¬ 250 < ids.length) {i : Nat} (h4 : firstBad 0 ids = some i) : recFault nm len ids = (3, (i : Int)) := by
  unfold recFault
  rw [if_neg (by rw [h]; simp), if_neg h2, if_neg h3, h4]
theorem recFault_sum {nm : List UInt8} {len : Int} {ids : List (Nat × Int)} (h : isName nm = true) (h2 : ¬ (len < 0 ∨ 4000 < len)) (h3 : ¬ 250 < ids.length) (h4 : firstBad 0 ids = none) (h5 : lenSum ids ≠ len) : recFault nm len ids = (9, -1) := by
  unfold recFault
  rw [if_neg (by rw [h]; simp), if_neg h2, if_neg h3, h4]
  simp only
  rw [if_neg h5]
theorem recFault_fine {nm : List UInt8} {len : Int} {ids : List (Nat × Int)} (h : isName nm = true) (h2 : ¬ (len < 0 ∨ 4000 < len)) (h3 : ¬ 250 < ids.length) (h4 : firstBad 0 ids = none) (h5 : lenSum ids = len) : recFault nm len ids = (0, -1) := by
  unfold recFault
  rw [if_neg (by rw [h]; simp), if_neg h2, if_neg h3, h4]
  simp only
  rw [if_pos h5]

/- A recipe in a box of its own, and a result of two cells behind it: what both hold. -/
structure FaultW (w W : World) (nm : ByteArray) (len p : Int) (v : Value) : Prop where
  below : Below w.heap.size w W
  size : w.heap.size + 1 < W.heap.size
  b0 : W.cell? ⟨w.heap.size, 0, none⟩ = some (.string nm)
  b1 : W.cell? ⟨w.heap.size, 1, none⟩ = some (.int .i64 len)
  b2 : W.cell? ⟨w.heap.size, 2, none⟩ = some (.int .u32 p)
  b3 : W.cell? ⟨w.heap.size, 3, none⟩ = some v
  r0 : W.cell? ⟨w.heap.size + 1, 0, none⟩ = some (.int .i64 0)
  r1 : W.cell? ⟨w.heap.size + 1, 1, none⟩ = some (.int .i64 0)
  f0 : W.frozen? ⟨w.heap.size + 1, 0, none⟩ = false
  f1 : W.frozen? ⟨w.heap.size + 1, 1, none⟩ = false
theorem FaultW.new (w : World) (nm : ByteArray) (len p : Int) (v : Value) (t t' : TypeId) : FaultW w ((w.alloc (.cells #[.string nm, .int .i64 len, .int .u32 p, v] t)).alloc (.cells #[.int .i64 0, .int .i64 0] t')) nm len p v where
  below := ((Below.refl _ w).alloc (Nat.le_refl _) _).alloc (by simp) _
  size := by simp
  b0 := by rw [World.cell?_alloc_lt _ _ ⟨w.heap.size, 0, none⟩ (by simp)]; simp
  b1 := by rw [World.cell?_alloc_lt _ _ ⟨w.heap.size, 1, none⟩ (by simp)]; simp
  b2 := by rw [World.cell?_alloc_lt _ _ ⟨w.heap.size, 2, none⟩ (by simp)]; simp
  b3 := by rw [World.cell?_alloc_lt _ _ ⟨w.heap.size, 3, none⟩ (by simp)]; simp
  r0 := by simp
  r1 := by simp
  f0 := by simp
  f1 := by simp
theorem FaultW.next {w W W' : World} {nm : ByteArray} {len p : Int} {v : Value} (h : FaultW w W nm len p v) (hb : Below W.heap.size W W') : FaultW w W' nm len p v := by
  have hs := h.size
  have hs' := hb.size
  exact ⟨h.below.trans (hb.mono h.below.size), by omega, (hb.cell (p := ⟨_, 0, none⟩) (by simp; omega)).trans h.b0, (hb.cell (p := ⟨_, 1, none⟩) (by simp; omega)).trans h.b1, (hb.cell (p := ⟨_, 2, none⟩) (by simp; omega)).trans h.b2, (hb.cell (p := ⟨_, 3, none⟩) (by simp; omega)).trans h.b3,
    (hb.cell (p := ⟨_, 0, none⟩) (by simp; omega)).trans h.r0, (hb.cell (p := ⟨_, 1, none⟩) (by simp; omega)).trans h.r1, (hb.frozen (p := ⟨_, 0, none⟩) (by simp; omega)).trans h.f0, (hb.frozen (p := ⟨_, 1, none⟩) (by simp; omega)).trans h.f1⟩

end Go.Proofs.YtcbcjefefmbccaaDoor
namespace Go.Proofs.YtcbcjefefmbccaaDoor
open Go.RowKit

/- The error v has the number f.1 and the place f.2 (0: nil; -1: no place). -/
def ErrIs (w : World) (a : Nat → Addr) (v : Value) (f : Int × Int) : Prop :=
  (v = .nilIface ∧ f = (0, -1)) ∨ (∃ k : Nat, k < 12 ∧ v = sentV a k ∧ f = ((k : Int) + 1, -1)) ∨
  (∃ (k pb po : Nat) (at0 : Int), k < 12 ∧ v = .iface 29 (.pointer (some ⟨pb, po, none⟩)) ∧ w.cell? ⟨pb, po, none⟩ = some (.int .i64 at0) ∧ w.cell? ⟨pb, po + 1, none⟩ = some (sentV a k) ∧ f = ((k : Int) + 1, at0))
theorem ErrIs.below {w w' : World} {a : Nat → Addr} {v : Value} {f : Int × Int} (h : ErrIs w a v f) (hb : Below w.heap.size w w') : ErrIs w' a v f := by
  rcases h with h | h | ⟨k, pb, po, at0, hk, hv, h0, h1, hf⟩
  · exact .inl h
  · exact .inr (.inl h)
  · exact .inr (.inr ⟨k, pb, po, at0, hk, hv, (hb.cell (p := ⟨pb, po, none⟩) (lt_of_cell h0)).trans h0, (hb.cell (p := ⟨pb, po + 1, none⟩) (lt_of_cell h1)).trans h1, hf⟩)
/- The same, and a fault lies from block 'base' on. -/
def ErrIn (base : Nat) (w : World) (a : Nat → Addr) (v : Value) (f : Int × Int) : Prop :=
  (v = .nilIface ∧ f = (0, -1)) ∨ (∃ k : Nat, k < 12 ∧ v = sentV a k ∧ f = ((k : Int) + 1, -1)) ∨
  (∃ (k pb po : Nat) (at0 : Int), k < 12 ∧ base ≤ pb ∧ v = .iface 29 (.pointer (some ⟨pb, po, none⟩)) ∧ w.cell? ⟨pb, po, none⟩ = some (.int .i64 at0) ∧ w.cell? ⟨pb, po + 1, none⟩ = some (sentV a k) ∧ f = ((k : Int) + 1, at0))
theorem ErrIn.at {base : Nat} {w : World} {a : Nat → Addr} {v : Value} {f : Int × Int} (h : ErrIn base w a v f) : ErrIs w a v f := by
  rcases h with h | h | ⟨k, pb, po, at0, hk, _, hv, h0, h1, hf⟩
  · exact .inl h
  · exact .inr (.inl h)
  · exact .inr (.inr ⟨k, pb, po, at0, hk, hv, h0, h1, hf⟩)
theorem ErrIn.below {base : Nat} {w w' : World} {a : Nat → Addr} {v : Value} {f : Int × Int} (h : ErrIn base w a v f) (hb : Below w.heap.size w w') : ErrIn base w' a v f := by
  rcases h with h | h | ⟨k, pb, po, at0, hk, hl, hv, h0, h1, hf⟩
  · exact .inl h
  · exact .inr (.inl h)
  · exact .inr (.inr ⟨k, pb, po, at0, hk, hl, hv, (hb.cell (p := ⟨pb, po, none⟩) (lt_of_cell h0)).trans h0, (hb.cell (p := ⟨pb, po + 1, none⟩) (lt_of_cell h1)).trans h1, hf⟩)
theorem ErrIn.setCell {base : Nat} {w : World} {a : Nat → Addr} {v : Value} {f : Int × Int} (h : ErrIn base w a v f) {x : Addr} (hx : x.block < base) (u : Value) : ErrIn base (w.setCell x u) a v f := by
  rcases h with h | h | ⟨k, pb, po, at0, hk, hl, hv, h0, h1, hf⟩
  · exact .inl h
  · exact .inr (.inl h)
  · have hn : ∀ j, x ≠ ⟨pb, j, none⟩ := fun j e => by rw [e] at hx; simp at hx; omega
    exact .inr (.inr ⟨k, pb, po, at0, hk, hl, hv, by rw [World.cell?_setCell_other _ _ _ _ (hn _)]; exact h0, by rw [World.cell?_setCell_other _ _ _ _ (hn _)]; exact h1, hf⟩)
theorem ErrIn.nil {base : Nat} {w : World} {a : Nat → Addr} {v : Value} {x : Int} (h : ErrIn base w a v (0, x)) : v = .nilIface := by
  rcases h with h | ⟨k, _, _, hf⟩ | ⟨k, pb, po, at0, _, _, _, _, _, hf⟩
  · exact h.1
  · have := congrArg Prod.fst hf
    simp only at this
    omega
  · have := congrArg Prod.fst hf
    simp only at this
    omega
theorem ErrIs.code {w : World} {a : Nat → Addr} {v : Value} {f : Int × Int} (h : ErrIs w a v f) (hE : ErrW w a) :
    Calls Tryd.prog 10 #[v] w fun e w' => e = .returned (.tuple #[.int .i64 f.1, .int .i64 f.2]) ∧ Below w.heap.size w w' := by
  rcases h with ⟨rfl, rfl⟩ | ⟨k, hk, rfl, rfl⟩ | ⟨k, pb, po, at0, hk, rfl, h0, h1, rfl⟩
  · exact (code_nil w).mono fun e w' ⟨h1, h2⟩ => ⟨h1, by rw [h2]; exact Below.refl _ _⟩
  · exact code_sent a k hk w hE
  · exact code_fault a k hk pb po at0 w hE h0 h1

set_option maxHeartbeats 2000000 in
theorem coded_is (a : Nat → Addr) (v : Value) (c : Int) (w : World) (hE : ErrW w a) (h : ErrIs w a v (c, -1)) :
    Calls Tryd.prog 11 #[v, .int .i64 c] w fun e w' => e = .returned (.bool true) ∧ Below w.heap.size w w' := by
  have HE : Hid (ErrW w a) := hE
  have HI : Hid (ErrIs w a v (c, -1)) := h
  have hcc : (c == c) = true := by simp
  clear hE h
  go_enter Tryd.func11, Tryd.ntmps11
  go_wp2_with fail
  refine (HI.out.code HE.out).mono ?_
  rintro e w1 ⟨rfl, hb1⟩
  go_wp2_with fail
  go_ret
  exact ⟨rfl, hb1⟩

end Go.Proofs.YtcbcjefefmbccaaDoor
namespace Go.Proofs.YtcbcjefefmbccaaDoor
open Go.RowKit

structure ErrE (L : List Nat) (w : World) (a : Nat → Addr) : Prop where
  glob : ∀ i, L.contains i = true → w.cell? ⟨errG i, 0, none⟩ = some (sentV a i)
theorem ErrE.below {L : List Nat} {w0 w w' : World} {a : Nat → Addr} (h : ErrE L w a) (hb : Below w0.heap.size w w') (hle : w.heap.size ≤ w0.heap.size) : ErrE L w' a where
  glob i hi := by rw [hb.cell (p := ⟨errG i, 0, none⟩) (Nat.lt_of_lt_of_le (lt_of_cell (h.glob i hi)) hle)]; exact h.glob i hi
theorem ErrE.sub {L M : List Nat} {w : World} {a : Nat → Addr} (h : ErrE L w a) (hs : (M.all fun i => L.contains i) = true) : ErrE M w a where
  glob i hi := h.glob i (List.all_eq_true.1 hs i (List.contains_iff_mem.1 hi))
theorem ErrW.on {L : List Nat} {w : World} {a : Nat → Addr} (h : ErrW w a) (hl : (L.all fun i => decide (i < 12)) = true) : ErrE L w a where
  glob i hi := h.glob i (by simpa using List.all_eq_true.1 hl i (List.contains_iff_mem.1 hi))
end Go.Proofs.YtcbcjefefmbccaaDoor
namespace Go.Proofs.YtcbcjefefmbccaaDoor
open Go.RowKit Go.ChangeShapes

def errSentsN : List (String × Nat × List UInt8) := [("cornbin/api.ErrBound", 1, [99, 111, 114, 110, 98, 105, 110, 58, 32, 98, 111, 117, 110, 100]), ("cornbin/api.ErrShape", 2, [99, 111, 114, 110, 98, 105, 110, 58, 32, 115, 104, 97, 112, 101]), ("cornbin/api.ErrName", 3, [99, 111, 114, 110, 98, 105, 110, 58, 32, 110, 97, 109, 101]), ("cornbin/api.ErrNone", 4, [99, 111, 114, 110, 98, 105, 110, 58, 32, 110, 111, 110, 101]), ("cornbin/api.ErrExist", 5, [99, 111, 114, 110, 98, 105, 110, 58, 32, 101, 120, 105, 115, 116]), ("cornbin/api.ErrFull", 6, [99, 111, 114, 110, 98, 105, 110, 58, 32, 102, 117, 108, 108]), ("cornbin/api.ErrSum", 8, [99, 111, 114, 110, 98, 105, 110, 58, 32, 115, 117, 109]), ("cornbin/api.ErrClash", 9, [99, 111, 114, 110, 98, 105, 110, 58, 32, 99, 108, 97, 115, 104])]
theorem lAllN : (errSentsN.all fun x => Tryd.prog.globalNamed x.1 == some x.2.1 && (Tryd.prog.globals[x.2.1]?).map (·.type) == some 25) = true := by kernel_rfl
theorem errN_of_laid {W : World} (h : laidMetH Tryd.prog (errSentsN.map sentD) W) : ∃ a, ErrE [1, 2, 3, 4, 5, 6, 8, 9] W a := by
  have h' : laidMet Tryd.prog (errSentsN.map sentD) W := by rw [← Go.MakeChecks.laidMetH_plain _ _ _ (by decide)]; exact h
  obtain ⟨ps, hv, hnd, hrows⟩ := h'
  obtain ⟨b, ha, hne⟩ := sents_of_laid (P := Tryd.prog) Tryd.underlying25 lRowE Tryd.underlying98 Tryd.underlying100 rfl rfl Tryd.underlying9 lCellsE lCellsS errSentsN ps
    (fun x hx => by have := List.all_eq_true.1 lAllN x hx; simpa using this) hv hnd hrows
  refine ⟨fun i => match i with | 1 => b 0 | 2 => b 1 | 3 => b 2 | 4 => b 3 | 5 => b 4 | 6 => b 5 | 8 => b 6 | 9 => b 7 | _ => b 0, ⟨fun i hi => ?_⟩⟩
  have : i = 1 ∨ i = 2 ∨ i = 3 ∨ i = 4 ∨ i = 5 ∨ i = 6 ∨ i = 8 ∨ i = 9 := by simpa using hi
  rcases this with rfl | rfl | rfl | rfl | rfl | rfl | rfl | rfl
  · exact (ha 0 (by decide)).1
  · exact (ha 1 (by decide)).1
  · exact (ha 2 (by decide)).1
  · exact (ha 3 (by decide)).1
  · exact (ha 4 (by decide)).1
  · exact (ha 5 (by decide)).1
  · exact (ha 6 (by decide)).1
  · exact (ha 7 (by decide)).1
end Go.Proofs.YtcbcjefefmbccaaDoor
