/-
  Own text. A recipe's fault, pure, and the document's RecipeFault by a contract.
  Own text. Errors by their numbers and places, in one word (ErrIs); faulted and coded at the right ones by contracts; LongRecipe.
  Own text. Some of the sentinels, as the world holds them: those of a list (ErrE), whatever the others are.
  Own text. From what a row lists of the nine sentinels that packages node, recipe and bin name at put, get and drop ('laid') to ErrE.
  Own text. Maps in memory as association lists, up to their order: a kit of a map's key and element shapes (MapKit), block b is a map that holds just l (MapKit.Of), a range over it under way (MapKit.Rng); look-up, store, len, range, next, delete.
  Own text. Plain mathematics of prints: the sum by bytes, its parts, that one other byte makes another sum; hex digits and decimal digits, written and read. No program in it.
-/
import Derived.Test.YtjdobbjdlighpaaGreatDoorG01
import Derived.BigQuiet
import Derived.MakeChecks
import Derived.Maps.Ext
import Derived.Maps.RangeWalk
import Derived.Maps.OwnSet
import Derived.Lib.ItoaNum
namespace Go.Proofs.YtjdobbjdlighpaaGreatDoor
open Go.RowKit

/- v is a slice of IDs. -/
def IdsAt (w : World) (v : Value) (ids : List (Nat × Int)) : Prop :=
  ∃ (p : Option Addr) (c : Nat), v = .slice p ids.length c ∧ ∀ i (h : i < ids.length), ∃ b o, p = some ⟨b, o, none⟩ ∧ b < w.heap.size ∧ w.cell? ⟨b, o + i * 2, none⟩ = some (.int .u32 (ids[i].1 : Nat)) ∧ w.cell? ⟨b, o + i * 2 + 1, none⟩ = some (.int .i64 ids[i].2)
theorem IdsAt.below {w w' : World} {v : Value} {ids : List (Nat × Int)} (h : IdsAt w v ids) (hb : Below w.heap.size w w') : IdsAt w' v ids := by
  obtain ⟨p, c, rfl, h⟩ := h
  refine ⟨p, c, rfl, fun i hi => ?_⟩
  obtain ⟨b, o, hp, hlt, h1, h2⟩ := h i hi
  exact ⟨b, o, hp, Nat.lt_of_lt_of_le hlt hb.size, (hb.cell (p := ⟨b, o + i * 2, none⟩) hlt).trans h1, (hb.cell (p := ⟨b, o + i * 2 + 1, none⟩) hlt).trans h2⟩
abbrev rcpV (nm : ByteArray) (len p : Int) (v : Value) : Value := .agg #[.string nm, .int .i64 len, .int .u32 p, v]

def idOk (x : Nat × Int) : Bool := decide (1 ≤ x.2 ∧ x.2 ≤ 64)
def firstBad : Nat → List (Nat × Int) → Option Nat
  | _, [] => none
  | i, x :: r => if idOk x = true then firstBad (i + 1) r else some i
def lenSum (ids : List (Nat × Int)) : Int := (ids.map (·.2)).sum
def recFault (nm : List UInt8) (len : Int) (ids : List (Nat × Int)) : Int × Int :=
  if isName nm = false then (4, -1) else if len < 0 ∨ 4000 < len then (2, -1) else if 250 < ids.length then (7, -1) else
    match firstBad 0 ids with
    | some i => (3, (i : Int))
    | none => if lenSum ids = len then (0, -1) else (9, -1)
theorem firstBad_at : ∀ (ids : List (Nat × Int)) (i k : Nat) (h : k < ids.length), (∀ j (hj : j < k), idOk (ids[j]'(by omega)) = true) → idOk ids[k] = false → firstBad i ids = some (i + k)
  | [], _, _, h, _, _ => by simp at h
  | x :: r, i, 0, _, _, hb => by
    have hb' : idOk x = false := hb
    rw [firstBad, hb']
    rfl
  | x :: r, i, k + 1, h, ha, hb => by
    have h0 : idOk x = true := ha 0 (by omega)
    rw [firstBad, if_pos h0, firstBad_at r (i + 1) k (by simpa using h) (fun j hj => by have := ha (j + 1) (by omega); simpa using this) (by simpa using hb)]
    congr 1
    omega
theorem firstBad_none : ∀ (ids : List (Nat × Int)) (i : Nat), (∀ j (hj : j < ids.length), idOk ids[j] = true) → firstBad i ids = none
  | [], _, _ => rfl
  | x :: r, i, ha => by
    have h0 : idOk x = true := ha 0 (by simp)
    rw [firstBad, if_pos h0, firstBad_none r (i + 1) (fun j hj => by have := ha (j + 1) (by simpa using hj); simpa using this)]
theorem lenSum_snoc (ids : List (Nat × Int)) (k : Nat) (h : k < ids.length) : lenSum (ids.take (k + 1)) = lenSum (ids.take k) + ids[k].2 := by
  rw [List.take_succ_eq_append_getElem h, lenSum, List.map_append, List.sum_append]
  simp [lenSum]
theorem recFault_name {nm : List UInt8} (len : Int) (ids : List (Nat × Int)) (h : isName nm = false) : recFault nm len ids = (4, -1) := by unfold recFault; rw [if_pos h]
theorem recFault_len {nm : List UInt8} {len : Int} (ids : List (Nat × Int)) (h : isName nm = true) (h2 : len < 0 ∨ 4000 < len) : recFault nm len ids = (2, -1) := by
  unfold recFault
  rw [if_neg (by rw [h]; simp), if_pos h2]
theorem recFault_many {nm : List UInt8} {len : Int} {ids : List (Nat × Int)} (h : isName nm = true) (h2 : ¬ (len < 0 ∨ 4000 < len)) (h3 : 250 < ids.length) : recFault nm len ids = (7, -1) := by
  unfold recFault
  rw [if_neg (by rw [h]; simp), if_neg h2, if_pos h3]
theorem recFault_shape {nm : List UInt8} {len : Int} {ids : List (Nat × Int)} (h : isName nm = true) (h2 : ¬ (len < 0 ∨ 4000 < len)) (h3 : ¬ 250 < ids.length) {i : Nat} (h4 : firstBad 0 ids = some i) : recFault nm len ids = (3, (i : Int)) := by
  unfold recFault
  rw [if_neg (by rw [h]; simp), if_neg h2, if_neg h3, h4]
theorem recFault_sum {nm : List UInt8} {len : Int} {ids : List (Nat × Int)} (h : isName nm = true) (h2 : ¬ (len < 0 ∨ 4000 < len)) (h3 : ¬ 250 < ids.length) (h4 : firstBad 0 ids = none) (h5 : lenSum ids ≠ len) : recFault nm len ids = (9, -1) := by
  unfold recFault
  rw [if_neg (by rw [h]; simp), if_neg h2, if_neg h3, h4]
  simp only
  rw [if_neg h5]
theorem recFault_fine {nm : List UInt8} {len : Int} {ids : List (Nat × Int)} (h : isName nm = true) (h2 : ¬ (len < 0 ∨ 4000 < len)) (h3 : ¬ 250 < ids.length) (h4 : firstBad 0 ids = none) (h5 : lenSum ids = len) : recFault nm len ids = (0, -1) := by
  unfold recFault
  rw [if_neg (by rw [h]; simp), if_neg h2, if_neg h3, h4]
  simp only
  rw [if_pos h5]

/- A recipe in a box of its own, and a result of two cells behind it: what both hold. -/
structure FaultW (w W : World) (nm : ByteArray) (len p : Int) (v : Value) : Prop where
  below : Below w.heap.size w W
  size : w.heap.size + 1 < W.heap.size
  b0 : W.cell? ⟨w.heap.size, 0, none⟩ = some (.string nm)
  b1 : W.cell? ⟨w.heap.size, 1, none⟩ = some (.int .i64 len)
  b2 : W.cell? ⟨w.heap.size, 2, none⟩ = some (.int .u32 p)
  b3 : W.cell? ⟨w.heap.size, 3, none⟩ = some v
  r0 : W.cell? ⟨w.heap.size + 1, 0, none⟩ = some (.int .i64 0)
  r1 : W.cell? ⟨w.heap.size + 1, 1, none⟩ = some (.int .i64 0)
  f0 : W.frozen? ⟨w.heap.size + 1, 0, none⟩ = false
  f1 : W.frozen? ⟨w.heap.size + 1, 1, none⟩ = false
theorem FaultW.new (w : World) (nm : ByteArray) (len p : Int) (v : Value) (t t' : TypeId) : FaultW w ((w.alloc (.cells #[.string nm, .int .i64 len, .int .u32 p, v] t)).alloc (.cells #[.int .i64 0, .int .i64 0] t')) nm len p v where
  below := ((Below.refl _ w).alloc (Nat.le_refl _) _).alloc (by simp) _
  size := by simp
  b0 := by rw [World.cell?_alloc_lt _ _ ⟨w.heap.size, 0, none⟩ (by simp)]; simp
  b1 := by rw [World.cell?_alloc_lt _ _ ⟨w.heap.size, 1, none⟩ (by simp)]; simp
  b2 := by rw [World.cell?_alloc_lt _ _ ⟨w.heap.size, 2, none⟩ (by simp)]; simp
  b3 := by rw [World.cell?_alloc_lt _ _ ⟨w.heap.size, 3, none⟩ (by simp)]; simp
  r0 := by simp
  r1 := by simp
  f0 := by simp
  f1 := by simp
theorem FaultW.next {w W W' : World} {nm : ByteArray} {len p : Int} {v : Value} (h : FaultW w W nm len p v) (hb : Below W.heap.size W W') : FaultW w W' nm len p v := by
  have hs := h.size
  have hs' := hb.size
  exact ⟨h.below.trans (hb.mono h.below.size), by omega, (hb.cell (p := ⟨_, 0, none⟩) (by simp; omega)).trans h.b0, (hb.cell (p := ⟨_, 1, none⟩) (by simp; omega)).trans h.b1, (hb.cell (p := ⟨_, 2, none⟩) (by simp; omega)).trans h.b2, (hb.cell (p := ⟨_, 3, none⟩) (by simp; omega)).trans h.b3,
    (hb.cell (p := ⟨_, 0, none⟩) (by simp; omega)).trans h.r0, (hb.cell (p := ⟨_, 1, none⟩) (by simp; omega)).trans h.r1, (hb.frozen (p := ⟨_, 0, none⟩) (by simp; omega)).trans h.f0, (hb.frozen (p := ⟨_, 1, none⟩) (by simp; omega)).trans h.f1⟩

set_option maxRecDepth 100000 in
set_option maxHeartbeats 4000000 in
theorem recipeFault_any (nm : ByteArray) (hnm : nm.size ≤ maxLen) (len p : Int) (v : Value) (ids : List (Nat × Int)) (w : World) (hv : IdsAt w v ids) (hlen : ids.length ≤ maxLen) :
    Calls Tryz.prog 23 #[rcpV nm len p v] w fun e w' => e = .returned (faultV (recFault nm.data.toList len ids).1 (recFault nm.data.toList len ids).2) ∧ Below w.heap.size w w' := by
  obtain ⟨pa, c, rfl, hcell⟩ := hv
  have HN : Hid (nm.size ≤ maxLen) := hnm
  have hl2 : (ids.length : Int) ≤ 9223372036854775807 := by unfold maxLen at hlen; omega
  clear hnm hlen
  go_enter Tryz.func23, Tryz.ntmps23
  go_wp2_with fail
  refine (refIsName_any nm HN.out _).mono ?_
  rintro e w1 ⟨rfl, rfl⟩
  have hF := FaultW.new w nm len p (.slice pa ids.length c) 26 46
  obtain ⟨W, hW⟩ : ∃ W, (w.alloc (.cells #[.string nm, .int .i64 len, .int .u32 p, .slice pa ids.length c] 26)).alloc (.cells #[.int .i64 0, .int .i64 0] 46) = W := ⟨_, rfl⟩
  rw [hW] at hF ⊢
  clear hW
  have hb1 := hF.b1
  have hb3 := hF.b3
  have HCELL : Hid (∀ i (h : i < ids.length), ∃ b o, pa = some ⟨b, o, none⟩ ∧ W.cell? ⟨b, o + i * 2 + 1, none⟩ = some (.int .i64 ids[i].2)) := fun i hi => by
    obtain ⟨b, o, hp, hlt, _, h2⟩ := hcell i hi
    exact ⟨b, o, hp, (hF.below.cell (p := ⟨b, o + i * 2 + 1, none⟩) hlt).trans h2⟩
  clear hcell
  by_cases h1 : isName nm.data.toList = true
  · rw [h1]
    have H1 : Hid (isName nm.data.toList = true) := h1
    clear h1
    by_cases h2a : len < 0
    · have HR : Hid (recFault nm.data.toList len ids = (2, -1)) := recFault_len ids H1.out (.inl h2a)
      go_wp2_with fail
      refine (bare_any 2 _).mono ?_
      rintro e w2 ⟨rfl, hb2⟩
      have hF2 := hF.next hb2
      have k0 := hF2.r0
      have k1 := hF2.r1
      have f0 := hF2.f0
      have f1 := hF2.f1
      go_wp2_with fail
      exact bodyPost_ret (v := faultV 2 (-1)) (by simp [results, Tryz.results23, go_sem, k0, k1]) rfl ⟨by rw [HR.out], (hF2.below.setCell (p := ⟨w.heap.size + 1, 0, none⟩) (by simp) _).setCell (p := ⟨w.heap.size + 1, 1, none⟩) (by simp) _⟩
    · by_cases h2b : 4000 < len
      · have HR : Hid (recFault nm.data.toList len ids = (2, -1)) := recFault_len ids H1.out (.inr h2b)
        go_wp2_with fail
        refine (bare_any 2 _).mono ?_
        rintro e w2 ⟨rfl, hb2⟩
        have hF2 := hF.next hb2
        have k0 := hF2.r0
        have k1 := hF2.r1
        have f0 := hF2.f0
        have f1 := hF2.f1
        go_wp2_with fail
        exact bodyPost_ret (v := faultV 2 (-1)) (by simp [results, Tryz.results23, go_sem, k0, k1]) rfl ⟨by rw [HR.out], (hF2.below.setCell (p := ⟨w.heap.size + 1, 0, none⟩) (by simp) _).setCell (p := ⟨w.heap.size + 1, 1, none⟩) (by simp) _⟩
      · have H2 : Hid (¬ (len < 0 ∨ 4000 < len)) := fun h => h.elim h2a h2b
        by_cases h3 : 250 < ids.length
        · have h3' : (250 : Int) < (ids.length : Int) := by omega
          have HR : Hid (recFault nm.data.toList len ids = (7, -1)) := recFault_many H1.out H2.out h3
          clear h3
          go_wp2_with fail
          refine (bare_any 7 _).mono ?_
          rintro e w2 ⟨rfl, hb2⟩
          have hF2 := hF.next hb2
          have k0 := hF2.r0
          have k1 := hF2.r1
          have f0 := hF2.f0
          have f1 := hF2.f1
          go_wp2_with fail
          exact bodyPost_ret (v := faultV 7 (-1)) (by simp [results, Tryz.results23, go_sem, k0, k1]) rfl ⟨by rw [HR.out], (hF2.below.setCell (p := ⟨w.heap.size + 1, 0, none⟩) (by simp) _).setCell (p := ⟨w.heap.size + 1, 1, none⟩) (by simp) _⟩
        · have h3' : ¬ (250 : Int) < (ids.length : Int) := by omega
          have H3 : Hid (¬ 250 < ids.length) := h3
          clear h3
          go_wp2_with fail
          go_loopw [4, 5] (fun t i wr => ∃ (k : Nat), k ≤ ids.length ∧ i = .int .i64 k ∧ t = .int .i64 (lenSum (ids.take k)) ∧ (∀ j (hj : j < ids.length), j < k → idOk ids[j] = true) ∧ 0 ≤ lenSum (ids.take k) ∧ lenSum (ids.take k) ≤ 64 * (k : Int) ∧ wr = W) (fun _ i _ => ids.length - (intOf i).toNat)
          case atStart => exact ⟨0, Nat.zero_le _, rfl, by simp [lenSum], fun j _ h => by omega, by simp [lenSum], by simp [lenSum], rfl⟩
          case round =>
            obtain ⟨k, hk, rfl, rfl, hok, hs0, hs1, rfl⟩ := hrel
            have HOK : Hid (∀ j (hj : j < ids.length), j < k → idOk ids[j] = true) := hok
            clear hok
            by_cases hlt : k < ids.length
            · have hlt' : (k : Int) < (ids.length : Int) := by omega
              obtain ⟨b, o, rfl, hc⟩ := HCELL.out k hlt
              have HSN : Hid (lenSum (ids.take (k + 1)) = lenSum (ids.take k) + ids[k].2) := lenSum_snoc ids k hlt
              obtain ⟨x, hx⟩ : ∃ x, ids[k].2 = x := ⟨_, rfl⟩
              obtain ⟨t, ht⟩ : ∃ t, lenSum (ids.take k) = t := ⟨_, rfl⟩
              have HOX : Hid (idOk ids[k] = decide (1 ≤ x ∧ x ≤ 64)) := by show _ = _; rw [← hx]; rfl
              rw [hx] at hc HSN
              rw [ht] at HSN hs0 hs1
              rw [ht]
              clear hx ht
              by_cases hx1 : x < 1
              · have HB : Hid (firstBad 0 ids = some k) := by
                  have := firstBad_at ids 0 k hlt (fun j hj => HOK.out j (by omega) hj) (by rw [HOX.out]; simp; omega)
                  rwa [Nat.zero_add] at this
                have HR : Hid (recFault nm.data.toList len ids = (3, (k : Int))) := recFault_shape H1.out H2.out H3.out HB.out
                have k0 := hF.r0
                have k1 := hF.r1
                have f0 := hF.f0
                have f1 := hF.f1
                go_wp2_with fail
                exact bodyPost_ret (v := faultV 3 (k : Int)) (by simp [results, Tryz.results23, go_sem, k0, k1]) rfl ⟨by rw [HR.out], (hF.below.setCell (p := ⟨w.heap.size + 1, 0, none⟩) (by simp) _).setCell (p := ⟨w.heap.size + 1, 1, none⟩) (by simp) _⟩
              · by_cases hx2 : 64 < x
                · have HB : Hid (firstBad 0 ids = some k) := by
                    have := firstBad_at ids 0 k hlt (fun j hj => HOK.out j (by omega) hj) (by rw [HOX.out]; simp; omega)
                    rwa [Nat.zero_add] at this
                  have HR : Hid (recFault nm.data.toList len ids = (3, (k : Int))) := recFault_shape H1.out H2.out H3.out HB.out
                  have k0 := hF.r0
                  have k1 := hF.r1
                  have f0 := hF.f0
                  have f1 := hF.f1
                  go_wp2_with fail
                  exact bodyPost_ret (v := faultV 3 (k : Int)) (by simp [results, Tryz.results23, go_sem, k0, k1]) rfl ⟨by rw [HR.out], (hF.below.setCell (p := ⟨w.heap.size + 1, 0, none⟩) (by simp) _).setCell (p := ⟨w.heap.size + 1, 1, none⟩) (by simp) _⟩
                · go_wp2_with fail
                  go_roundw
                  case rel => exact ⟨k + 1, by omega, by go_num, by rw [HSN.out], fun j hj h => by
                    by_cases e : j = k
                    · subst e; rw [HOX.out]; simp; omega
                    · exact HOK.out j hj (by omega), by rw [HSN.out]; omega, by rw [HSN.out]; omega, trivial⟩
                  case measure => simp [intOf]; omega
            · have hge : (ids.length : Int) ≤ (k : Int) := by omega
              have hall : ids.take k = ids := List.take_of_length_le (by omega)
              rw [hall] at hs0 hs1 ⊢
              have HB : Hid (firstBad 0 ids = none) := firstBad_none ids 0 (fun j hj => HOK.out j hj (by omega))
              obtain ⟨t, ht⟩ : ∃ t, lenSum ids = t := ⟨_, rfl⟩
              have HLS : Hid (lenSum ids = t) := ht
              rw [ht] at hs0 hs1 ⊢
              clear ht hall
              by_cases hsum : t = len
              · have HR : Hid (recFault nm.data.toList len ids = (0, -1)) := recFault_fine H1.out H2.out H3.out HB.out (by rw [HLS.out]; exact hsum)
                have hq : (t == len) = true := by rw [beq_iff_eq]; exact hsum
                clear hsum
                go_wp2_with fail
                refine (fine_any _).mono ?_
                rintro e w2 ⟨rfl, hb2⟩
                have hF2 := hF.next hb2
                have k0 := hF2.r0
                have k1 := hF2.r1
                have f0 := hF2.f0
                have f1 := hF2.f1
                go_wp2_with fail
                exact bodyPost_ret (v := faultV 0 (-1)) (by simp [results, Tryz.results23, go_sem, k0, k1]) rfl ⟨by rw [HR.out], (hF2.below.setCell (p := ⟨w.heap.size + 1, 0, none⟩) (by simp) _).setCell (p := ⟨w.heap.size + 1, 1, none⟩) (by simp) _⟩
              · have HR : Hid (recFault nm.data.toList len ids = (9, -1)) := recFault_sum H1.out H2.out H3.out HB.out (by rw [HLS.out]; exact hsum)
                have hq : (t == len) = false := by rw [beq_eq_false_iff_ne]; exact hsum
                clear hsum
                go_wp2_with fail
                refine (bare_any 9 _).mono ?_
                rintro e w2 ⟨rfl, hb2⟩
                have hF2 := hF.next hb2
                have k0 := hF2.r0
                have k1 := hF2.r1
                have f0 := hF2.f0
                have f1 := hF2.f1
                go_wp2_with fail
                exact bodyPost_ret (v := faultV 9 (-1)) (by simp [results, Tryz.results23, go_sem, k0, k1]) rfl ⟨by rw [HR.out], (hF2.below.setCell (p := ⟨w.heap.size + 1, 0, none⟩) (by simp) _).setCell (p := ⟨w.heap.size + 1, 1, none⟩) (by simp) _⟩
  · have h1' : isName nm.data.toList = false := by simpa using h1
    rw [h1']
    have HR : Hid (recFault nm.data.toList len ids = (4, -1)) := recFault_name len ids h1'
    clear h1 h1'
    go_wp2_with fail
    refine (bare_any 4 _).mono ?_
    rintro e w2 ⟨rfl, hb2⟩
    have hF2 := hF.next hb2
    have k0 := hF2.r0
    have k1 := hF2.r1
    have f0 := hF2.f0
    have f1 := hF2.f1
    go_wp2_with fail
    exact bodyPost_ret (v := faultV 4 (-1)) (by simp [results, Tryz.results23, go_sem, k0, k1]) rfl ⟨by rw [HR.out], (hF2.below.setCell (p := ⟨w.heap.size + 1, 0, none⟩) (by simp) _).setCell (p := ⟨w.heap.size + 1, 1, none⟩) (by simp) _⟩
end Go.Proofs.YtjdobbjdlighpaaGreatDoor
namespace Go.Proofs.YtjdobbjdlighpaaGreatDoor
open Go.RowKit

/- The error v has the number f.1 and the place f.2 (0: nil; -1: no place). -/
def ErrIs (w : World) (a : Nat → Addr) (v : Value) (f : Int × Int) : Prop :=
  (v = .nilIface ∧ f = (0, -1)) ∨ (∃ k : Nat, k < 12 ∧ v = sentV a k ∧ f = ((k : Int) + 1, -1)) ∨
  (∃ (k pb po : Nat) (at0 : Int), k < 12 ∧ v = .iface 98 (.pointer (some ⟨pb, po, none⟩)) ∧ w.cell? ⟨pb, po, none⟩ = some (.int .i64 at0) ∧ w.cell? ⟨pb, po + 1, none⟩ = some (sentV a k) ∧ f = ((k : Int) + 1, at0))
theorem ErrIs.below {w w' : World} {a : Nat → Addr} {v : Value} {f : Int × Int} (h : ErrIs w a v f) (hb : Below w.heap.size w w') : ErrIs w' a v f := by
  rcases h with h | h | ⟨k, pb, po, at0, hk, hv, h0, h1, hf⟩
  · exact .inl h
  · exact .inr (.inl h)
  · exact .inr (.inr ⟨k, pb, po, at0, hk, hv, (hb.cell (p := ⟨pb, po, none⟩) (lt_of_cell h0)).trans h0, (hb.cell (p := ⟨pb, po + 1, none⟩) (lt_of_cell h1)).trans h1, hf⟩)
/- The same, and a fault lies from block 'base' on. -/
def ErrIn (base : Nat) (w : World) (a : Nat → Addr) (v : Value) (f : Int × Int) : Prop :=
  (v = .nilIface ∧ f = (0, -1)) ∨ (∃ k : Nat, k < 12 ∧ v = sentV a k ∧ f = ((k : Int) + 1, -1)) ∨
  (∃ (k pb po : Nat) (at0 : Int), k < 12 ∧ base ≤ pb ∧ v = .iface 98 (.pointer (some ⟨pb, po, none⟩)) ∧ w.cell? ⟨pb, po, none⟩ = some (.int .i64 at0) ∧ w.cell? ⟨pb, po + 1, none⟩ = some (sentV a k) ∧ f = ((k : Int) + 1, at0))
theorem ErrIn.at {base : Nat} {w : World} {a : Nat → Addr} {v : Value} {f : Int × Int} (h : ErrIn base w a v f) : ErrIs w a v f := by
  rcases h with h | h | ⟨k, pb, po, at0, hk, _, hv, h0, h1, hf⟩
  · exact .inl h
  · exact .inr (.inl h)
  · exact .inr (.inr ⟨k, pb, po, at0, hk, hv, h0, h1, hf⟩)
theorem ErrIn.below {base : Nat} {w w' : World} {a : Nat → Addr} {v : Value} {f : Int × Int} (h : ErrIn base w a v f) (hb : Below w.heap.size w w') : ErrIn base w' a v f := by
  rcases h with h | h | ⟨k, pb, po, at0, hk, hl, hv, h0, h1, hf⟩
  · exact .inl h
  · exact .inr (.inl h)
  · exact .inr (.inr ⟨k, pb, po, at0, hk, hl, hv, (hb.cell (p := ⟨pb, po, none⟩) (lt_of_cell h0)).trans h0, (hb.cell (p := ⟨pb, po + 1, none⟩) (lt_of_cell h1)).trans h1, hf⟩)
theorem ErrIn.setCell {base : Nat} {w : World} {a : Nat → Addr} {v : Value} {f : Int × Int} (h : ErrIn base w a v f) {x : Addr} (hx : x.block < base) (u : Value) : ErrIn base (w.setCell x u) a v f := by
  rcases h with h | h | ⟨k, pb, po, at0, hk, hl, hv, h0, h1, hf⟩
  · exact .inl h
  · exact .inr (.inl h)
  · have hn : ∀ j, x ≠ ⟨pb, j, none⟩ := fun j e => by rw [e] at hx; simp at hx; omega
    exact .inr (.inr ⟨k, pb, po, at0, hk, hl, hv, by rw [World.cell?_setCell_other _ _ _ _ (hn _)]; exact h0, by rw [World.cell?_setCell_other _ _ _ _ (hn _)]; exact h1, hf⟩)
theorem ErrIn.nil {base : Nat} {w : World} {a : Nat → Addr} {v : Value} {x : Int} (h : ErrIn base w a v (0, x)) : v = .nilIface := by
  rcases h with h | ⟨k, _, _, hf⟩ | ⟨k, pb, po, at0, _, _, _, _, _, hf⟩
  · exact h.1
  · have := congrArg Prod.fst hf
    simp only at this
    omega
  · have := congrArg Prod.fst hf
    simp only at this
    omega
theorem ErrIs.code {w : World} {a : Nat → Addr} {v : Value} {f : Int × Int} (h : ErrIs w a v f) (hE : ErrW w a) :
    Calls Tryz.prog 64 #[v] w fun e w' => e = .returned (.tuple #[.int .i64 f.1, .int .i64 f.2]) ∧ Below w.heap.size w w' := by
  rcases h with ⟨rfl, rfl⟩ | ⟨k, hk, rfl, rfl⟩ | ⟨k, pb, po, at0, hk, rfl, h0, h1, rfl⟩
  · exact (code_nil w).mono fun e w' ⟨h1, h2⟩ => ⟨h1, by rw [h2]; exact Below.refl _ _⟩
  · exact code_sent a k hk w hE
  · exact code_fault a k hk pb po at0 w hE h0 h1

set_option maxHeartbeats 2000000 in
theorem faulted_true (a : Nat → Addr) (v : Value) (f : Int × Int) (w : World) (hE : ErrW w a) (h : ErrIs w a v f) :
    Calls Tryz.prog 18 #[v, faultV f.1 f.2] w fun e w' => e = .returned (.bool true) ∧ Below w.heap.size w w' := by
  obtain ⟨c, p⟩ := f
  have HB : Hid (∀ o, Below w.heap.size w (w.alloc o)) := fun o => (Below.refl _ w).alloc (Nat.le_refl _) o
  have HE : Hid (ErrW w a) := hE
  have HI : Hid (ErrIs w a v (c, p)) := h
  have hcc : (c == c) = true := by simp
  have hpp : (p == p) = true := by simp
  clear hE h
  go_enter Tryz.func18, Tryz.ntmps18
  go_wp2_with fail
  refine ((HI.out.below (HB.out _)).code (HE.out.below (HB.out _) (Nat.le_refl _))).mono ?_
  rintro e w1 ⟨rfl, hb1⟩
  have hb : Below w.heap.size w w1 := (HB.out _).trans (hb1.mono (by simp))
  have k0 : w1.cell? ⟨w.heap.size, 0, none⟩ = some (.int .i64 c) := (hb1.cell (p := ⟨w.heap.size, 0, none⟩) (by simp)).trans (by simp)
  have k1 : w1.cell? ⟨w.heap.size, 1, none⟩ = some (.int .i64 p) := (hb1.cell (p := ⟨w.heap.size, 1, none⟩) (by simp)).trans (by simp)
  clear hb1
  by_cases h0 : c = 0
  · have hc0 : (c == 0) = true := by rw [beq_iff_eq]; exact h0
    clear h0
    go_wp2_with fail
    go_ret
    exact ⟨rfl, hb⟩
  · have hc0 : (c == 0) = false := by rw [beq_eq_false_iff_ne]; exact h0
    clear h0
    go_wp2_with fail
    go_ret
    exact ⟨rfl, hb⟩

set_option maxHeartbeats 2000000 in
theorem coded_is (a : Nat → Addr) (v : Value) (c : Int) (w : World) (hE : ErrW w a) (h : ErrIs w a v (c, -1)) :
    Calls Tryz.prog 21 #[v, .int .i64 c] w fun e w' => e = .returned (.bool true) ∧ Below w.heap.size w w' := by
  have HE : Hid (ErrW w a) := hE
  have HI : Hid (ErrIs w a v (c, -1)) := h
  have hcc : (c == c) = true := by simp
  clear hE h
  go_enter Tryz.func21, Tryz.ntmps21
  go_wp2_with fail
  refine (HI.out.code HE.out).mono ?_
  rintro e w1 ⟨rfl, hb1⟩
  go_wp2_with fail
  go_ret
  exact ⟨rfl, hb1⟩

def longR (nm : ByteArray) (ids : List (Nat × Int)) : Int := if 30 < nm.size ∨ (60 < ids.length ∧ ids.length ≠ 251) then 1 else 0
set_option maxHeartbeats 2000000 in
theorem longRecipe_any (nm : ByteArray) (len p : Int) (v : Value) (ids : List (Nat × Int)) (w : World) (hv : IdsAt w v ids) :
    Calls Tryz.prog 19 #[rcpV nm len p v] w fun e w' => e = .returned (.int .i64 (longR nm ids)) ∧ Below w.heap.size w w' := by
  obtain ⟨pa, c, rfl, _⟩ := hv
  by_cases h1 : 30 < nm.size
  · have h1' : (30 : Int) < (nm.size : Int) := by omega
    have HV : Hid (longR nm ids = 1) := by show _ = _; unfold longR; rw [if_pos (.inl h1)]
    clear h1
    go_enter Tryz.func19, Tryz.ntmps19
    go_wp2_with fail
    go_ret
    exact ⟨by rw [HV.out]; rfl, (Below.refl _ w).alloc (Nat.le_refl _) _⟩
  · have h1' : ¬ (30 : Int) < (nm.size : Int) := by omega
    by_cases h2 : 60 < ids.length
    · have h2' : (60 : Int) < (ids.length : Int) := by omega
      by_cases h3 : ids.length = 251
      · have h3' : ((ids.length : Int) == 251) = true := by rw [beq_iff_eq]; omega
        have h3n : ((ids.length : Int) != 251) = false := by rw [bne, h3']; rfl
        have HV : Hid (longR nm ids = 0) := by show _ = _; unfold longR; rw [if_neg (by omega)]
        clear h1 h2 h3
        go_enter Tryz.func19, Tryz.ntmps19
        go_wp2_with fail
        go_ret
        exact ⟨by rw [HV.out]; rfl, (Below.refl _ w).alloc (Nat.le_refl _) _⟩
      · have h3' : ((ids.length : Int) == 251) = false := by rw [beq_eq_false_iff_ne]; omega
        have h3n : ((ids.length : Int) != 251) = true := by rw [bne, h3']; rfl
        have HV : Hid (longR nm ids = 1) := by show _ = _; unfold longR; rw [if_pos (.inr ⟨h2, h3⟩)]
        clear h1 h2 h3
        go_enter Tryz.func19, Tryz.ntmps19
        go_wp2_with fail
        go_ret
        exact ⟨by rw [HV.out]; rfl, (Below.refl _ w).alloc (Nat.le_refl _) _⟩
    · have h2' : ¬ (60 : Int) < (ids.length : Int) := by omega
      have HV : Hid (longR nm ids = 0) := by show _ = _; unfold longR; rw [if_neg (by omega)]
      clear h1 h2
      go_enter Tryz.func19, Tryz.ntmps19
      go_wp2_with fail
      go_ret
      exact ⟨by rw [HV.out]; rfl, (Below.refl _ w).alloc (Nat.le_refl _) _⟩
end Go.Proofs.YtjdobbjdlighpaaGreatDoor
namespace Go.Proofs.YtjdobbjdlighpaaGreatDoor
open Go.RowKit

structure ErrE (L : List Nat) (w : World) (a : Nat → Addr) : Prop where
  glob : ∀ i, L.contains i = true → w.cell? ⟨errG i, 0, none⟩ = some (sentV a i)
theorem ErrE.below {L : List Nat} {w0 w w' : World} {a : Nat → Addr} (h : ErrE L w a) (hb : Below w0.heap.size w w') (hle : w.heap.size ≤ w0.heap.size) : ErrE L w' a where
  glob i hi := by rw [hb.cell (p := ⟨errG i, 0, none⟩) (Nat.lt_of_lt_of_le (lt_of_cell (h.glob i hi)) hle)]; exact h.glob i hi
theorem ErrE.sub {L M : List Nat} {w : World} {a : Nat → Addr} (h : ErrE L w a) (hs : (M.all fun i => L.contains i) = true) : ErrE M w a where
  glob i hi := h.glob i (List.all_eq_true.1 hs i (List.contains_iff_mem.1 hi))
theorem ErrW.on {L : List Nat} {w : World} {a : Nat → Addr} (h : ErrW w a) (hl : (L.all fun i => decide (i < 12)) = true) : ErrE L w a where
  glob i hi := h.glob i (by simpa using List.all_eq_true.1 hl i (List.contains_iff_mem.1 hi))
end Go.Proofs.YtjdobbjdlighpaaGreatDoor
namespace Go.Proofs.YtjdobbjdlighpaaGreatDoor
open Go.RowKit Go.ChangeShapes

def errSentsK : List (String × Nat × List UInt8) := [("cornbin/api.ErrBound", 1, [99, 111, 114, 110, 98, 105, 110, 58, 32, 98, 111, 117, 110, 100]), ("cornbin/api.ErrShape", 2, [99, 111, 114, 110, 98, 105, 110, 58, 32, 115, 104, 97, 112, 101]), ("cornbin/api.ErrName", 0, [99, 111, 114, 110, 98, 105, 110, 58, 32, 110, 97, 109, 101]), ("cornbin/api.ErrNone", 8, [99, 111, 114, 110, 98, 105, 110, 58, 32, 110, 111, 110, 101]), ("cornbin/api.ErrExist", 7, [99, 111, 114, 110, 98, 105, 110, 58, 32, 101, 120, 105, 115, 116]), ("cornbin/api.ErrFull", 4, [99, 111, 114, 110, 98, 105, 110, 58, 32, 102, 117, 108, 108]), ("cornbin/api.ErrSum", 3, [99, 111, 114, 110, 98, 105, 110, 58, 32, 115, 117, 109]), ("cornbin/api.ErrClash", 6, [99, 111, 114, 110, 98, 105, 110, 58, 32, 99, 108, 97, 115, 104]), ("cornbin/api.ErrUsed", 10, [99, 111, 114, 110, 98, 105, 110, 58, 32, 117, 115, 101, 100])]
theorem lAllK : (errSentsK.all fun x => Tryz.prog.globalNamed x.1 == some x.2.1 && (Tryz.prog.globals[x.2.1]?).map (·.type) == some 28) = true := by kernel_rfl
theorem errK_of_laid {W : World} (h : laidMetH Tryz.prog (errSentsK.map sentD) W) : ∃ a, ErrE [1, 2, 3, 4, 5, 6, 8, 9, 10] W a := by
  have h' : laidMet Tryz.prog (errSentsK.map sentD) W := by rw [← Go.MakeChecks.laidMetH_plain _ _ _ (by decide)]; exact h
  obtain ⟨ps, hv, hnd, hrows⟩ := h'
  obtain ⟨b, ha, hne⟩ := sents_of_laid (P := Tryz.prog) Tryz.underlying28 lRowE Tryz.underlying279 Tryz.underlying297 rfl rfl Tryz.underlying9 lCellsE lCellsS errSentsK ps
    (fun x hx => by have := List.all_eq_true.1 lAllK x hx; simpa using this) hv hnd hrows
  refine ⟨fun i => match i with | 1 => b 0 | 2 => b 1 | 3 => b 2 | 4 => b 3 | 5 => b 4 | 6 => b 5 | 8 => b 6 | 9 => b 7 | 10 => b 8 | _ => b 0, ⟨fun i hi => ?_⟩⟩
  have : i = 1 ∨ i = 2 ∨ i = 3 ∨ i = 4 ∨ i = 5 ∨ i = 6 ∨ i = 8 ∨ i = 9 ∨ i = 10 := by simpa using hi
  rcases this with rfl | rfl | rfl | rfl | rfl | rfl | rfl | rfl | rfl
  · exact (ha 0 (by decide)).1
  · exact (ha 1 (by decide)).1
  · exact (ha 2 (by decide)).1
  · exact (ha 3 (by decide)).1
  · exact (ha 4 (by decide)).1
  · exact (ha 5 (by decide)).1
  · exact (ha 6 (by decide)).1
  · exact (ha 7 (by decide)).1
  · exact (ha 8 (by decide)).1
end Go.Proofs.YtjdobbjdlighpaaGreatDoor
namespace Go.Proofs.YtjdobbjdlighpaaGreatDoor
open Go.RowKit Go.Maps

structure MapKit (P : Program) (k : TypeId) (κ β : Type) where
  mkK : κ → Value
  wf : κ → Prop
  mkV : β → Value
  unV : Value → Option β
  K : Keyed P k
  key : ∀ x, wf x → ∃ kl, keyOf P k (mkK x) = some kl
  inv : ∀ v kl, keyOf P k v = some kl → ∃ x, wf x ∧ v = mkK x
  inj : ∀ x y, mkK x = mkK y → x = y
  un : ∀ c, unV (mkV c) = some c
  back : ∀ v c, unV v = some c → v = mkV c

variable {P : Program} {k : TypeId} {κ β : Type} (M : MapKit P k κ β)
def MapKit.kl (x : κ) : Lit := (keyOf P k (M.mkK x)).getD (.bool false)
def MapKit.R (v : Value) : Option (DataW Value × List MemPlace) := (M.unV v).map (fun _ => (.held v, []))
def MapKit.ent (h : κ × β) : Lit × DataW Value := (M.kl h.1, .held (M.mkV h.2))
theorem MapKit.key_kl {x : κ} (h : M.wf x) : keyOf P k (M.mkK x) = some (M.kl x) := by
  obtain ⟨kl, e⟩ := M.key x h
  unfold MapKit.kl
  rw [e]
  rfl
theorem MapKit.kl_inj {x y : κ} (hx : M.wf x) (hy : M.wf y) (e : M.kl x = M.kl y) : x = y := M.inj _ _ (M.K.inj (M.key_kl hx) (e ▸ M.key_kl hy))
theorem MapKit.isKey {x : κ} (h : M.wf x) : WideAt.IsKeyLit (M.kl x) := M.K.key (M.key_kl h)
theorem MapKit.same [DecidableEq κ] {x y : κ} (hx : M.wf x) (hy : M.wf y) : (M.kl x).sameKey (M.kl y) = decide (x = y) := by
  by_cases e : x = y
  · subst e
    rw [WideAt.sameKey_self (M.isKey hx)]
    simp
  · rw [Maps.sameKey_ne (fun h => e (M.kl_inj hx hy h))]
    simp [e]
theorem MapKit.R_mk (c : β) : M.R (M.mkV c) = some (.held (M.mkV c), []) := by
  unfold MapKit.R
  rw [M.un]
  rfl
theorem MapKit.R_inv {v : Value} {y : DataW Value × List MemPlace} (h : M.R v = some y) : ∃ c, v = M.mkV c ∧ y = (.held v, []) := by
  unfold MapKit.R at h
  cases hu : M.unV v with
  | none => rw [hu] at h; cases h
  | some c => rw [hu] at h; cases h; exact ⟨c, M.back v c hu, rfl⟩

/- Block b is a map that holds just l. -/
structure MapKit.Of (w : World) (b : Nat) (l : List (κ × β)) : Prop where
  own : ∃ ds, w.ownsMap P k M.R b ds.length (.map ds) ∧ ds.Perm (l.map M.ent)
  wf : ∀ h ∈ l, M.wf h.1
theorem ownsMap_tight {w : World} {b n : Nat} {R : Value → Option (DataW Value × List MemPlace)} {ds : List (Lit × DataW Value)} (h : w.ownsMap P k R b n (.map ds)) : w.ownsMap P k R b ds.length (.map ds) := by
  obtain ⟨es, clock, hb, F, _, hD⟩ := h
  have e : ds = (es.toList.map (WideElems.rg P k R)).foldr DataW.insert [] := DataW.map.inj hD
  exact ⟨es, clock, hb, F, by rw [e, length_sorted]; simp, hD⟩
variable {M} {w w' : World} {b r : Nat} {l l' : List (κ × β)}
theorem MapKit.Of.lt (h : M.Of w b l) : b < w.heap.size := by
  obtain ⟨ds, ho, _⟩ := h.own
  exact ho.lt
theorem MapKit.Of.made (M : MapKit P k κ β) (w : World) : M.Of (w.alloc (.map #[] 0)) w.heap.size [] := ⟨⟨[], World.ownsMap_made w P k M.R, List.Perm.refl _⟩, fun h hm => by simp at hm⟩
theorem MapKit.Of.kept {row : Option Nat} (h : M.Of w b l) (hg : w.grownBy w' row) (hr : some b ≠ row) : M.Of w' b l := by
  obtain ⟨ds, ho, hp⟩ := h.own
  exact ⟨⟨ds, ho.kept hg hr, hp⟩, h.wf⟩
theorem MapKit.Of.perm (h : M.Of w b l) (hp : l.Perm l') : M.Of w b l' := by
  obtain ⟨ds, ho, hd⟩ := h.own
  exact ⟨⟨ds, ho, hd.trans (hp.map _)⟩, fun x hx => h.wf x (hp.mem_iff.2 hx)⟩
/- w' holds at b what w held there. -/
theorem MapKit.Of.moved {b' : Nat} (h : M.Of w b l) (e : w'.heap[b']? = w.heap[b]?) : M.Of w' b' l := by
  obtain ⟨ds, ⟨es, clock, hb, F, hs, hD⟩, hp⟩ := h.own
  exact ⟨⟨ds, ⟨es, clock, e.trans hb, F, hs, hD⟩, hp⟩, h.wf⟩
theorem MapKit.Of.isMap (h : M.Of w b l) : ∃ es clock, w.heap[b]? = some (.map es clock) := by
  obtain ⟨ds, ⟨es, clock, hb, _⟩, _⟩ := h.own
  exact ⟨es, clock, hb⟩
theorem ents_apart {ds : List (Lit × DataW Value)} (hap : ds.Pairwise (fun p q => p.1 ≠ q.1)) (hp : ds.Perm (l.map M.ent)) : l.Pairwise (fun p q => p.1 ≠ q.1) := by
  have h1 : (l.map M.ent).Pairwise (fun p q => p.1 ≠ q.1) := (hp.pairwise_iff (fun {_ _} hne => Ne.symm hne)).1 hap
  rw [List.pairwise_map] at h1
  exact h1.imp (fun hne e => hne (by unfold MapKit.ent; simp only; rw [e]))
theorem MapKit.Of.apart (h : M.Of w b l) : l.Pairwise (fun p q => p.1 ≠ q.1) := by
  obtain ⟨ds, ho, hp⟩ := h.own
  obtain ⟨es, e, hap, _⟩ := ho.entries M.K
  cases e
  exact ents_apart hap hp
theorem MapKit.Of.len {t e : TypeId} (h : M.Of w b l) (ht : P.underlying t = some (.map k e)) (ty : TypeId) : (Builtin.len_ #[t] ty #[.map (some b)]).run P w = .ok (.int .i64 l.length) w := by
  obtain ⟨ds, ho, hp⟩ := h.own
  have := ho.len ht ty
  rw [this]
  show Result.ok (Value.int .i64 (ds.length : Nat)) w = _
  rw [hp.length_eq, List.length_map]
theorem MapKit.Of.look_none {t e : TypeId} {c0 : β} (h : M.Of w b l) (ht : P.underlying t = some (.map k e)) (hz : (zeroValue e).run P w = .ok (M.mkV c0) w) {x : κ} (hx : M.wf x) (hn : ∀ h ∈ l, h.1 ≠ x) :
    (Instr.lookup t (.map (some b)) (M.mkK x) true).run P w = .ok (.tuple #[M.mkV c0, .bool false]) w := by
  obtain ⟨ds, ho, hp⟩ := h.own
  have hno : ∀ p ∈ ds, p.1 ≠ M.kl x := fun p hm e => by
    obtain ⟨y, hy, rfl⟩ := List.mem_map.1 (hp.mem_iff.1 hm)
    exact hn y hy (M.kl_inj (h.wf y hy) hx e)
  obtain ⟨v, ps, hrun, hv⟩ := ho.look_ok M.K ht hz (M.R_mk c0) (M.key_kl hx)
  rw [WideAt.atKey_none _ hno] at hv
  obtain ⟨c, rfl, e⟩ := M.R_inv hv
  have ev : M.mkV c0 = M.mkV c := DataW.held.inj (Prod.mk.inj e).1
  rw [hrun, Maps.has_false_of_atKey (fun z => WideAt.atKey_none z hno), ev]
theorem MapKit.Of.look_some {t e : TypeId} {c0 : β} (h : M.Of w b l) (ht : P.underlying t = some (.map k e)) (hz : (zeroValue e).run P w = .ok (M.mkV c0) w) {x : κ} {c : β} (hm : (x, c) ∈ l) :
    (Instr.lookup t (.map (some b)) (M.mkK x) true).run P w = .ok (.tuple #[M.mkV c, .bool true]) w := by
  have hx : M.wf x := h.wf _ hm
  obtain ⟨ds, ho, hp⟩ := h.own
  obtain ⟨es, e, hap, _⟩ := ho.entries M.K
  cases e
  have hd : (M.kl x, DataW.held (M.mkV c)) ∈ ds := hp.mem_iff.2 (List.mem_map.2 ⟨_, hm, rfl⟩)
  have hat : ∀ z, (DataW.map ds).atKey (M.kl x) z = .held (M.mkV c) := fun z => WideAt.atKey_mem z (M.isKey hx) hap hd
  obtain ⟨v, ps, hrun, hv⟩ := ho.look_ok M.K ht hz (M.R_mk c0) (M.key_kl hx)
  rw [hat] at hv
  obtain ⟨c', rfl, e⟩ := M.R_inv hv
  have ev : M.mkV c = M.mkV c' := DataW.held.inj (Prod.mk.inj e).1
  rw [hrun, Maps.has_true_of_atKey hat, ev]
/- What a key's entry leaves. -/
theorem filter_ents [DecidableEq κ] {x : κ} (hx : M.wf x) : ∀ (l : List (κ × β)), (∀ h ∈ l, M.wf h.1) → (l.map M.ent).filter (ChangeMaps.notKey (M.kl x)) = (l.filter (fun h => !decide (h.1 = x))).map M.ent
  | [], _ => rfl
  | y :: r, hw => by
    have ih := filter_ents hx r (fun h hm => hw h (List.mem_cons_of_mem _ hm))
    have e : ChangeMaps.notKey (M.kl x) (M.ent y) = !decide (y.1 = x) := by
      unfold ChangeMaps.notKey MapKit.ent
      simp only
      rw [M.same (hw y (List.mem_cons_self ..)) hx]
    rw [List.map_cons, List.filter_cons, List.filter_cons, e, ih]
    by_cases h : y.1 = x <;> simp [h]
theorem insert_perm (x : Lit × DataW Value) : ∀ (l : List (Lit × DataW Value)), (DataW.insert x l).Perm (x :: l)
  | [] => List.Perm.refl _
  | y :: r => by
    unfold DataW.insert
    split
    · exact List.Perm.refl _
    · exact ((insert_perm x r).cons y).trans (List.Perm.swap x y r)
theorem MapKit.Of.store [DecidableEq κ] {t e : TypeId} (h : M.Of w b l) (ht : P.underlying t = some (.map k e)) {x : κ} (hx : M.wf x) (c : β) (hl : l.length < maxLen) :
    ∃ w', (Instr.mapUpdate t (.map (some b)) (M.mkK x) (M.mkV c)).run P w = .ok () w' ∧ (∀ l', ((x, c) :: l.filter (fun h => !decide (h.1 = x))).Perm l' → M.Of w' b l') ∧ w.grownBy w' (some b) := by
  obtain ⟨ds, ho, hp⟩ := h.own
  have hlen : ds.length = l.length := by rw [hp.length_eq, List.length_map]
  obtain ⟨w', hrun, ho', hg⟩ := ho.update M.K ht (by omega) (M.key_kl hx) (M.R_mk c)
  refine ⟨w', hrun, fun l' hl' => ⟨⟨_, ownsMap_tight ho', ?_⟩, fun y hy => ?_⟩, hg⟩
  · refine (insert_perm _ _).trans ?_
    refine List.Perm.trans ?_ (hl'.map M.ent)
    rw [List.map_cons, ← filter_ents hx l h.wf]
    exact (hp.filter _).cons _
  · rcases List.mem_cons.1 (hl'.mem_iff.2 hy) with rfl | hy
    · exact hx
    · exact h.wf y (List.mem_filter.1 hy).1

/- A range over a map under way: 'left x': is the entry at x still to come? -/
structure MapKit.Rng (M : MapKit P k κ β) (w : World) (b r : Nat) (l : List (κ × β)) (left : κ → Bool) (cnt : Nat) : Prop where
  at' : ∃ ds n lf, w.ranges P k M.R b r n (.map ds) lf cnt ∧ ds.Perm (l.map M.ent) ∧ ∀ x, M.wf x → lf (M.kl x) = left x
  wf : ∀ h ∈ l, M.wf h.1
theorem MapKit.Rng.of {left : κ → Bool} {cnt : Nat} (h : M.Rng w b r l left cnt) : M.Of w b l := by
  obtain ⟨ds, n, lf, hr, hp, _⟩ := h.at'
  exact ⟨⟨ds, ownsMap_tight hr.owns, hp⟩, h.wf⟩
theorem MapKit.Rng.kept {left : κ → Bool} {cnt : Nat} {row : Option Nat} (h : M.Rng w b r l left cnt) (hg : w.grownBy w' row) (hb : some b ≠ row) (hr : some r ≠ row) : M.Rng w' b r l left cnt := by
  obtain ⟨ds, n, lf, h1, hp, hl⟩ := h.at'
  exact ⟨⟨ds, n, lf, h1.kept hg hb hr, hp, hl⟩, h.wf⟩
theorem MapKit.Rng.lt {left : κ → Bool} {cnt : Nat} (h : M.Rng w b r l left cnt) : r < w.heap.size := by
  obtain ⟨ds, n, lf, h1, _⟩ := h.at'
  exact h1.lt
theorem MapKit.Rng.ne {left : κ → Bool} {cnt : Nat} (h : M.Rng w b r l left cnt) : r ≠ b := by
  obtain ⟨ds, n, lf, h1, _⟩ := h.at'
  exact h1.ne
theorem MapKit.Rng.left_eq {left : κ → Bool} {cnt : Nat} (h : M.Rng w b r l left cnt) : w.rangeLeft b r = cnt := by
  obtain ⟨ds, n, lf, h1, _⟩ := h.at'
  exact h1.left_eq
theorem MapKit.Rng.perm {left : κ → Bool} {cnt : Nat} (h : M.Rng w b r l left cnt) (hp : l.Perm l') : M.Rng w b r l' left cnt := by
  obtain ⟨ds, n, lf, h1, hd, hl⟩ := h.at'
  exact ⟨⟨ds, n, lf, h1, hd.trans (hp.map _), hl⟩, fun x hx => h.wf x (hp.mem_iff.2 hx)⟩

section
variable {ops : Array Oper} {rest : List Oper} {o : Oper} {a : Act} {Q : Exit → Act → World → Prop}
theorem wp_range_kit [DecidableEq κ] (M : MapKit P k κ β) (w : World) (hg : o.guard = none) (m : Operand) (t : TypeId) (hop : o.op = Op.range t m) (e : TypeId) (ht : P.underlying t = some (.map k e)) (b : Nat) (l : List (κ × β)) (hm : a.eval m = .map (some b)) (h : M.Of w b l)
    (hK : ∀ w', M.Rng w' b w.heap.size l (fun x => decide (x ∈ l.map (·.1))) l.length → w.grownBy w' none → w'.heap.size = w.heap.size + 1 → wpList P ops Q rest (a.put o.dst (.pointer (some ⟨w.heap.size, 0, none⟩))) w') :
    wpList P ops Q (o :: rest) a w := by
  obtain ⟨ds, ho, hp⟩ := h.own
  refine wpList_range_own w hg m t hop k e M.K ht M.R b ds.length (.map ds) hm ho fun w' hr hgr hs => hK w' ⟨⟨ds, ds.length, Maps.has (DataW.map ds), ?_, hp, fun x hx => ?_⟩, h.wf⟩ hgr hs
  · have e : Maps.size (DataW.map ds) = l.length := by show ds.length = _; rw [hp.length_eq, List.length_map]
    rw [← e]
    exact hr
  · rw [Bool.eq_iff_iff, Maps.has_eq, List.any_eq_true, decide_eq_true_eq]
    constructor
    · rintro ⟨p, hm, hs⟩
      obtain ⟨y, hy, rfl⟩ := List.mem_map.1 (hp.mem_iff.1 hm)
      have hxy : y.1 = x := M.kl_inj (h.wf y hy) hx (WideAt.sameKey_eq hs)
      exact List.mem_map.2 ⟨y, hy, hxy⟩
    · intro hm
      obtain ⟨y, hy, rfl⟩ := List.mem_map.1 hm
      exact ⟨M.ent y, hp.mem_iff.2 (List.mem_map.2 ⟨y, hy, rfl⟩), WideAt.sameKey_self (M.isKey hx)⟩
theorem wp_next_kit [DecidableEq κ] (M : MapKit P k κ β) (w : World) (hg : o.guard = none) (it : Operand) (hop : o.op = Op.next it false) (b r : Nat) (l : List (κ × β)) (left : κ → Bool) (cnt : Nat) (hit : a.eval it = .pointer (some ⟨r, 0, none⟩)) (h : M.Rng w b r l left cnt)
    (hDone : (∀ h ∈ l, left h.1 = false) → wpList P ops Q rest (a.put o.dst (.tuple #[.bool false])) w)
    (hMore : ∀ (x : κ) (c : β) (w' : World) (cnt' : Nat), (x, c) ∈ l → left x = true → M.Rng w' b r l (fun y => left y && !decide (y = x)) cnt' → cnt' < cnt → w.grownBy w' (some r) → w'.heap.size = w.heap.size →
      (Instr.entry (.pointer (some ⟨r, 0, none⟩))).run P w' = .ok (.tuple #[M.mkK x, M.mkV c]) w' → wpList P ops Q rest (a.put o.dst (.tuple #[.bool true, M.mkK x, M.mkV c])) w') :
    wpList P ops Q (o :: rest) a w := by
  obtain ⟨ds, n, lf, hr, hp, hl⟩ := h.at'
  refine wpList_next_ranges w hg it hop k M.K M.R M.mkK M.mkV (fun key kl hk => ?_) (fun v y hv => ?_) b r n (.map ds) lf cnt hit hr (fun _ h0 => hDone (fun y hy => by rw [← hl _ (h.wf y hy)]; exact h0 _)) ?_
  · obtain ⟨x, _, rfl⟩ := M.inv key kl hk
    exact ⟨x, rfl⟩
  · obtain ⟨c, rfl, _⟩ := M.R_inv hv
    exact ⟨c, rfl⟩
  · intro x c kl y w' cnt' hkey hlk hv hat hrg hlt hgr hsz hen
    obtain ⟨x', hx', e⟩ := M.inv _ _ hkey
    obtain rfl := M.inj _ _ e
    have ekl : kl = M.kl x := Option.some.inj (hkey.symm.trans (M.key_kl hx'))
    subst ekl
    have ey : y = (.held (M.mkV c), []) := by rw [M.R_mk] at hv; exact (Option.some.inj hv).symm
    have hm : (x, c) ∈ l := by
      have hh := Maps.has_true_of_atKey (fun z => hat z)
      rw [Maps.has_eq, List.any_eq_true] at hh
      obtain ⟨p, hpm, hs⟩ := hh
      obtain ⟨q, hq, rfl⟩ := List.mem_map.1 (hp.mem_iff.1 hpm)
      have hqx : q.1 = x := M.kl_inj (h.wf q hq) hx' (WideAt.sameKey_eq hs)
      obtain ⟨es, e, hap, _⟩ := hr.owns.entries M.K
      cases e
      have h2 := WideAt.atKey_mem (DataW.nil) (M.isKey (h.wf q hq)) hap hpm
      have h3 := hat DataW.nil
      rw [← hqx, h2, ey] at h3
      have h4 : M.mkV q.2 = M.mkV c := DataW.held.inj h3
      have h5 : q.2 = c := by have := M.un q.2; rw [h4, M.un] at this; exact (Option.some.inj this).symm
      rw [← hqx, ← h5]
      exact hq
    refine hMore x c w' cnt' hm (by rw [← hl x hx']; exact hlk) ⟨⟨ds, n, _, hrg, hp, fun z hz => ?_⟩, h.wf⟩ hlt hgr hsz hen
    rw [hl z hz, M.same hz hx']
theorem wp_delete_kit [DecidableEq κ] (M : MapKit P k κ β) (w : World) (hg : o.guard = none) (m x : Operand) (t : TypeId) (hop : o.op = Op.call { callee := Callee.builtin Builtin.delete, args := #[m, x], argTypes := #[t, k] })
    (e : TypeId) (ht : P.underlying t = some (.map k e)) (b r : Nat) (l : List (κ × β)) (left : κ → Bool) (cnt : Nat) (hm : a.eval m = .map (some b)) (h : M.Rng w b r l left cnt) (y : κ) (hy : M.wf y) (hx : a.eval x = M.mkK y)
    (hK : ∀ w' cnt', M.Rng w' b r (l.filter (fun h => !decide (h.1 = y))) (fun z => left z && !decide (z = y)) cnt' → cnt' ≤ cnt → w.mapTurned w' b → wpList P ops Q rest (a.put o.dst (.tuple #[])) w') :
    wpList P ops Q (o :: rest) a w := by
  obtain ⟨ds, n, lf, hr, hp, hl⟩ := h.at'
  refine wpList_delete_ranges w hg m x t k hop e M.K ht M.R b r n (.map ds) lf cnt hm hr _ _ hx (M.key_kl hy) fun w' cnt' hrg hle hturn => hK w' cnt' ⟨⟨_, n, _, hrg, ?_, fun z hz => ?_⟩, fun z hz => h.wf z (List.mem_filter.1 hz).1⟩ hle hturn
  · rw [← filter_ents hy l h.wf]
    exact hp.filter _
  · rw [hl z hz, M.same hz hy]
theorem wp_len_kit (M : MapKit P k κ β) (w : World) (hg : o.guard = none) (m : Operand) (t : TypeId) (hop : o.op = Op.call { callee := Callee.builtin Builtin.len, args := #[m], argTypes := #[t] }) (e : TypeId) (ht : P.underlying t = some (.map k e)) (b : Nat) (l : List (κ × β)) (hm : a.eval m = .map (some b)) (h : M.Of w b l)
    (hK : wpList P ops Q rest (a.put o.dst (.int .i64 l.length)) w) : wpList P ops Q (o :: rest) a w := by
  obtain ⟨ds, ho, hp⟩ := h.own
  have e' : Maps.size (DataW.map ds) = l.length := by show ds.length = _; rw [hp.length_eq, List.length_map]
  exact wpList_len_own w hg m t hop k e ht M.R b ds.length (.map ds) hm ho (by rw [e']; exact hK)
end
/- One more that is no longer to come. -/
theorem filter_flip {κ β : Type} [DecidableEq κ] {l : List (κ × β)} (hap : l.Pairwise (fun p q => p.1 ≠ q.1)) {p : κ → Bool} {h : κ × β} (hm : h ∈ l) (hp : p h.1 = true) :
    (l.filter (fun y => !(p y.1 && !decide (y.1 = h.1)))).Perm (h :: l.filter (fun y => !p y.1)) := by
  induction l with
  | nil => cases hm
  | cons z s ih =>
    obtain ⟨hz, hs⟩ := List.pairwise_cons.1 hap
    rcases List.mem_cons.1 hm with rfl | hm'
    · have e : s.filter (fun y => !(p y.1 && !decide (y.1 = h.1))) = s.filter (fun y => !p y.1) := List.filter_congr (fun y hy => by simp [Ne.symm (hz y hy)])
      rw [List.filter_cons, if_pos (by simp), e, List.filter_cons, if_neg (by simp [hp])]
    · have hne : z.1 ≠ h.1 := hz h hm'
      have ih' := ih hs hm'
      rw [List.filter_cons, List.filter_cons]
      cases hpz : p z.1 with
      | true => rw [if_neg (by simp [hne]), if_neg (by simp)]; exact ih'
      | false =>
        rw [if_pos (by simp), if_pos (by simp)]
        exact (ih'.cons z).trans (List.Perm.swap h z _)
end Go.Proofs.YtjdobbjdlighpaaGreatDoor
namespace Go.Proofs.YtjdobbjdlighpaaGreatDoor

/- One byte more. -/
def pstep (n : Nat) (c : UInt8) : Nat := ((n ^^^ c.toNat) * 16777619) % 4294967296
def pmore (n : Nat) (l : List UInt8) : Nat := l.foldl pstep n

theorem pstep_lt (n : Nat) (c : UInt8) : pstep n c < 4294967296 := Nat.mod_lt _ (by decide)
theorem pmore_lt (n : Nat) (hn : n < 4294967296) (l : List UInt8) : pmore n l < 4294967296 := by
  unfold pmore
  induction l generalizing n with
  | nil => exact hn
  | cons c l ih => rw [List.foldl_cons]; exact ih _ (pstep_lt n c)
theorem pmore_append (n : Nat) (a b : List UInt8) : pmore n (a ++ b) = pmore (pmore n a) b := List.foldl_append
theorem pmore_cons (n : Nat) (c : UInt8) (l : List UInt8) : pmore n (c :: l) = pmore (pstep n c) l := by simp only [pmore, List.foldl_cons]
theorem pmore_nil (n : Nat) : pmore n [] = n := rfl
theorem pmore_snoc (n : Nat) (l : List UInt8) (c : UInt8) : pmore n (l ++ [c]) = pstep (pmore n l) c := (pmore_append n l [c]).trans ((pmore_cons (pmore n l) c []).trans (pmore_nil _))

theorem mul_inj_of (M m v a b : Nat) (hv : m * v % M = 1) (ha : a < M) (hb : b < M) (h : a * m % M = b * m % M) : a = b := by
  have h1 : a * m * v % M = b * m * v % M := by rw [Nat.mul_mod, h, ← Nat.mul_mod]
  rw [Nat.mul_assoc, Nat.mul_assoc, Nat.mul_mod a, Nat.mul_mod b, hv] at h1
  simpa [Nat.mod_eq_of_lt ha, Nat.mod_eq_of_lt hb] using h1
theorem inv_ok : 16777619 * 899433627 % 4294967296 = 1 := by decide
theorem mul_inj {a b : Nat} (ha : a < 4294967296) (hb : b < 4294967296) (h : a * 16777619 % 4294967296 = b * 16777619 % 4294967296) : a = b :=
  mul_inj_of 4294967296 16777619 899433627 a b inv_ok ha hb h
theorem two32 : (2 : Nat) ^ 32 = 4294967296 := by decide
theorem xor_lt32 {a b : Nat} (ha : a < 4294967296) (hb : b < 4294967296) : a ^^^ b < 4294967296 := by
  rw [← two32] at *
  exact Nat.xor_lt_two_pow ha hb
theorem byte_lt32 (c : UInt8) : c.toNat < 4294967296 := by have := c.toNat_lt; omega
theorem pstep_inj_n {n m : Nat} {c : UInt8} (hn : n < 4294967296) (hm : m < 4294967296) (h : pstep n c = pstep m c) : n = m := by
  have := mul_inj (xor_lt32 hn (byte_lt32 c)) (xor_lt32 hm (byte_lt32 c)) h
  have h2 : (n ^^^ c.toNat) ^^^ c.toNat = (m ^^^ c.toNat) ^^^ c.toNat := by rw [this]
  simpa [Nat.xor_assoc] using h2
theorem pstep_inj_c {n : Nat} {c d : UInt8} (hn : n < 4294967296) (h : pstep n c = pstep n d) : c = d := by
  have := mul_inj (xor_lt32 hn (byte_lt32 c)) (xor_lt32 hn (byte_lt32 d)) h
  have h2 : n ^^^ (n ^^^ c.toNat) = n ^^^ (n ^^^ d.toNat) := by rw [this]
  rw [← Nat.xor_assoc, ← Nat.xor_assoc] at h2
  simp at h2
  exact UInt8.toNat_inj.1 h2
theorem pmore_inj_n {n m : Nat} (hn : n < 4294967296) (hm : m < 4294967296) (l : List UInt8) (h : pmore n l = pmore m l) : n = m := by
  induction l generalizing n m with
  | nil => exact h
  | cons c l ih => rw [pmore_cons, pmore_cons] at h; exact pstep_inj_n hn hm (ih (pstep_lt n c) (pstep_lt m c) h)
/- With one byte another one it is another sum. -/
theorem pmore_ne (n : Nat) (hn : n < 4294967296) (p q : List UInt8) (c d : UInt8) (h : c ≠ d) : pmore n (p ++ c :: q) ≠ pmore n (p ++ d :: q) := by
  intro e
  rw [pmore_append, pmore_append, pmore_cons, pmore_cons] at e
  exact h (pstep_inj_c (pmore_lt n hn p) (pmore_inj_n (pstep_lt _ _) (pstep_lt _ _) q e))

/- Hex digits. -/
def hexDig (d : Nat) : UInt8 := if d < 10 then UInt8.ofNat (48 + d) else UInt8.ofNat (87 + d)
/- The k last hex digits of n. -/
def hexLast : Nat → Nat → List UInt8
  | _, 0 => []
  | n, k + 1 => hexLast (n / 16) k ++ [hexDig (n % 16)]
theorem hexLast_length (n k : Nat) : (hexLast n k).length = k := by
  induction k generalizing n with
  | zero => rfl
  | succ k ih => simp [hexLast, ih]
/- The value of one hex digit, none where it is none. -/
def unhex1 (c : UInt8) : Option Nat :=
  if 48 ≤ c.toNat ∧ c.toNat ≤ 57 then some (c.toNat - 48) else if 97 ≤ c.toNat ∧ c.toNat ≤ 102 then some (c.toNat - 87) else none
def unhex : Nat → List UInt8 → Option Nat
  | n, [] => some n
  | n, c :: l => match unhex1 c with | some d => unhex (16 * n + d) l | none => none
theorem unhex1_hexDig : ∀ d : Fin 16, unhex1 (hexDig d.val) = some d.val := by decide
theorem unhex_append (n : Nat) (a b : List UInt8) : unhex n (a ++ b) = (unhex n a).bind fun m => unhex m b := by
  induction a generalizing n with
  | nil => rfl
  | cons c a ih =>
    simp only [List.cons_append, unhex]
    cases unhex1 c with
    | none => rfl
    | some d => exact ih _
theorem unhex_hexLast (m n k : Nat) (h : n < 16 ^ k) : unhex m (hexLast n k) = some (m * 16 ^ k + n) := by
  induction k generalizing n with
  | zero => simp at h; subst h; simp [hexLast, unhex]
  | succ k ih =>
    rw [hexLast, unhex_append, ih (n / 16) (by rw [Nat.pow_succ] at h; omega)]
    simp only [Option.bind_some, unhex]
    have := unhex1_hexDig ⟨n % 16, by omega⟩
    simp only at this
    rw [this]
    simp only [Option.some.injEq, Nat.pow_succ]
    rw [← Nat.mul_assoc]
    omega
theorem unhex_lt (l : List UInt8) : ∀ (n v : Nat), unhex n l = some v → v < (n + 1) * 16 ^ l.length := by
  induction l with
  | nil => intro n v h; simp [unhex] at h; subst h; simp
  | cons c l ih =>
    intro n v h
    simp only [unhex] at h
    cases hd : unhex1 c with
    | none => rw [hd] at h; cases h
    | some d =>
      rw [hd] at h
      have h1 := ih _ _ h
      have hd16 : d < 16 := by
        unfold unhex1 at hd
        split at hd
        · cases hd; omega
        · split at hd
          · cases hd; omega
          · cases hd
      refine Nat.lt_of_lt_of_le h1 ?_
      rw [List.length_cons, Nat.pow_succ, Nat.mul_comm (16 ^ l.length) 16, ← Nat.mul_assoc]
      exact Nat.mul_le_mul_right _ (by omega)

/- Decimal digits. -/
def undec1 (c : UInt8) : Option Nat := if 48 ≤ c.toNat ∧ c.toNat ≤ 57 then some (c.toNat - 48) else none
def undec : Nat → List UInt8 → Option Nat
  | n, [] => some n
  | n, c :: l => match undec1 c with | some d => undec (10 * n + d) l | none => none
/- What a number's text reads as: at most 'most' digits, no needless zero. -/
def numOf (l : List UInt8) (most : Nat) : Option Nat :=
  if l.length < 1 ∨ most < l.length ∨ (1 < l.length ∧ l.head? = some 48) then none else undec 0 l
theorem undec_append (n : Nat) (a b : List UInt8) : undec n (a ++ b) = (undec n a).bind fun m => undec m b := by
  induction a generalizing n with
  | nil => rfl
  | cons c a ih =>
    simp only [List.cons_append, undec]
    cases undec1 c with
    | none => rfl
    | some d => exact ih _
theorem undec1_dig : ∀ d : Fin 10, undec1 (UInt8.ofNat (48 + d.val)) = some d.val := by decide
theorem undec_decDigits (u : Nat) : undec 0 (Lib.decDigits u) = some u := by
  induction u using Nat.strongRecOn with
  | _ u ih =>
    by_cases h : u < 10
    · rw [Lib.decDigits, dif_pos h]
      have := undec1_dig ⟨u, h⟩
      simp only at this
      simp only [undec, this]
      simp
    · rw [Lib.decDigits, dif_neg h, undec_append, ih (u / 10) (by omega)]
      have := undec1_dig ⟨u % 10, by omega⟩
      simp only at this
      simp only [Option.bind_some, undec, this, Option.some.injEq]
      omega
theorem decDigits_head (u : Nat) (h : 10 ≤ u) : (Lib.decDigits u).head? ≠ some 48 := by
  induction u using Nat.strongRecOn with
  | _ u ih =>
    rw [Lib.decDigits, dif_neg (by omega)]
    by_cases h2 : u / 10 < 10
    · rw [Lib.decDigits, dif_pos h2]
      have : ∀ d : Fin 10, d.val ≠ 0 → UInt8.ofNat (48 + d.val) ≠ 48 := by decide
      have := this ⟨u / 10, h2⟩ (by simp; omega)
      simpa using this
    · have h3 := ih (u / 10) (by omega) (by omega)
      cases hl : Lib.decDigits (u / 10) with
      | nil => simp [← List.length_eq_zero_iff, Lib.decDigits_length] at hl; have := Lib.nDigits_pos (u / 10); omega
      | cons c l => rw [hl] at h3; simpa using h3
theorem decDigits_len_le (u k : Nat) (hk : 1 ≤ k) (h : u < 10 ^ k) : (Lib.decDigits u).length ≤ k := by
  rw [Lib.decDigits_length]
  induction k generalizing u with
  | zero => omega
  | succ k ih =>
    by_cases h2 : u < 10
    · rw [Lib.nDigits_small h2]; omega
    · rw [Lib.nDigits_big h2]
      have : 1 ≤ k := by
        rcases Nat.eq_zero_or_pos k with h0 | h0
        · subst h0; simp at h; omega
        · exact h0
      have := ih (u / 10) this (by rw [Nat.pow_succ] at h; omega)
      omega
theorem numOf_decDigits (u k : Nat) (hk : 1 ≤ k) (h : u < 10 ^ k) : numOf (Lib.decDigits u) k = some u := by
  have h1 := decDigits_len_le u k hk h
  have h2 : 1 ≤ (Lib.decDigits u).length := by rw [Lib.decDigits_length]; exact Lib.nDigits_pos u
  unfold numOf
  rw [if_neg, undec_decDigits]
  rintro (h3 | h3 | ⟨h3, h4⟩)
  · omega
  · omega
  · refine decDigits_head u ?_ h4
    rcases Nat.lt_or_ge u 10 with h5 | h5
    · rw [Lib.decDigits_length, Lib.nDigits_small h5] at h3; omega
    · exact h5
theorem undec_lt (l : List UInt8) : ∀ (n v : Nat), undec n l = some v → v < (n + 1) * 10 ^ l.length := by
  induction l with
  | nil => intro n v h; simp [undec] at h; subst h; simp
  | cons c l ih =>
    intro n v h
    simp only [undec] at h
    cases hd : undec1 c with
    | none => rw [hd] at h; cases h
    | some d =>
      rw [hd] at h
      have h1 := ih _ _ h
      have hd10 : d < 10 := by
        unfold undec1 at hd
        split at hd
        · cases hd; omega
        · cases hd
      refine Nat.lt_of_lt_of_le h1 ?_
      rw [List.length_cons, Nat.pow_succ, Nat.mul_comm (10 ^ l.length) 10, ← Nat.mul_assoc]
      exact Nat.mul_le_mul_right _ (by omega)

/- Texts of IDs. -/
def idText (n l : Nat) : List UInt8 := hexLast n 8 ++ 45 :: Lib.decDigits l
/- An ID out of a text. -/
def idRead (t : List UInt8) : Option (Nat × Nat) :=
  if t.length ≤ 8 ∨ t[8]? ≠ some 45 then none else
    match unhex 0 (t.take 8), numOf (t.drop 9) 6 with
    | some n, some l => some (n, l)
    | _, _ => none
theorem idRead_idText (n l : Nat) (hn : n < 4294967296) (hl : l < 1000000) : idRead (idText n l) = some (n, l) := by
  have h8 := hexLast_length n 8
  unfold idRead idText
  rw [if_neg]
  · have h1 : (hexLast n 8 ++ 45 :: Lib.decDigits l).take 8 = hexLast n 8 := by rw [List.take_append_of_le_length (by omega), List.take_of_length_le (by omega)]
    have h2 : (hexLast n 8 ++ 45 :: Lib.decDigits l).drop 9 = Lib.decDigits l := by
      rw [List.drop_append, h8]; simp [h8]
    rw [h1, h2, unhex_hexLast 0 n 8 (by omega), numOf_decDigits l 6 (by decide) (by omega)]
    simp
  · rintro (h | h)
    · simp [h8] at h
      omega
    · apply h
      rw [List.getElem?_append_right (by omega), h8]; rfl

/- IDs: of a text; by print, then by length. -/
def idOfL (p : List UInt8) : Nat × Int := (pmore 2166136261 p, (p.length : Int))
def lessB (a b : Nat × Int) : Bool := if (a.1 : Int) = (b.1 : Int) then decide (a.2 < b.2) else decide ((a.1 : Int) < (b.1 : Int))
theorem lessB_iff (a b : Nat × Int) : lessB a b = true ↔ a.1 < b.1 ∨ (a.1 = b.1 ∧ a.2 < b.2) := by
  unfold lessB
  split
  · rename_i h
    simp only [decide_eq_true_eq]
    omega
  · rename_i h
    simp only [decide_eq_true_eq]
    omega
end Go.Proofs.YtjdobbjdlighpaaGreatDoor
