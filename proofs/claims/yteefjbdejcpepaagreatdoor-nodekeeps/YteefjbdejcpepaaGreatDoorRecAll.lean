/-
  Own text. The least of a recipe's IDs, pure, and the document's RepOf by a contract.
  Own text. A right recipe as a text, pure, and the document's RecipeText by a contract.
  Own text. A text's recipe, pure, and the document's RecipeOf by a contract: the IDs in new memory.
  Own text. OwnRecipe by a contract: the same recipe, its IDs in new memory.
  Own text. IDs in memory that is followed through calls.
  Own text. What is joined of a recipe and pieces, pure, and the document's JoinOf by a contract.
  Own text. A recipe out of a text, pure, and the document's ReadRecipe by a contract.
  Own text. Recipes, pure: a text's recipe has no fault; what is joined of it and its pieces is the text, with another piece none; it is read as it was written; its rep is one of its IDs, and none is less.
  Own text. The document's SameIDs and SameRecipe of two that hold the same, by contracts: true; no old memory turns.
  Own text. What the program's package recipe is to answer, as contracts (RecSpec), over what the world holds (Env); blocks that are followed through calls (Blk); the document's RecipeOf in one word.
-/
import Derived.Test.YteefjbdejcpepaaGreatDoorRecFault
import Derived.Test.YteefjbdejcpepaaGreatDoorMem
import Derived.Test.YteefjbdejcpepaaGreatDoorPrint
import Derived.Deep.RegionHeld3
import Derived.RangeFuncRecord
import Derived.Test.YteefjbdejcpepaaGreatDoorText
import Derived.Test.YteefjbdejcpepaaGreatDoorCutAll
import Derived.Test.YteefjbdejcpepaaGreatDoorReadID
import Derived.Deep.QuietTactic
import Derived.BigQuiet
import Derived.Test.YteefjbdejcpepaaGreatDoorRecErr
namespace Go.Proofs.YteefjbdejcpepaaGreatDoor
open Go.RowKit

def lesser (m y : Nat × Int) : Nat × Int := if lessB y m = true then y else m
def repOf : List (Nat × Int) → Nat × Int
  | [] => (2166136261, 0)
  | x :: r => r.foldl lesser x
theorem repOf_snoc (l : List (Nat × Int)) (y : Nat × Int) (h : l ≠ []) : repOf (l ++ [y]) = lesser (repOf l) y := by
  cases l with
  | nil => exact (h rfl).elim
  | cons x r => show (r ++ [y]).foldl lesser x = _; rw [List.foldl_append]; rfl
theorem repOf_next (ids : List (Nat × Int)) (k : Nat) (h : k < ids.length) (h1 : 1 ≤ k) : repOf (ids.take (k + 1)) = lesser (repOf (ids.take k)) ids[k] := by
  rw [List.take_succ_eq_append_getElem h, repOf_snoc]
  intro e
  have := congrArg List.length e
  rw [List.length_take, List.length_nil] at this
  omega

/- Between two rounds: the recipe's box, the result, and the least one so far, each in a block of its own. -/
structure RepW (w W : World) (v : Value) (m : Nat × Int) : Prop where
  below : Below w.heap.size w W
  size : w.heap.size + 1 + 1 < W.heap.size
  b3 : W.cell? ⟨w.heap.size, 3, none⟩ = some v
  r0 : W.cell? ⟨w.heap.size + 1, 0, none⟩ = some (.int .u32 0)
  r1 : W.cell? ⟨w.heap.size + 1, 1, none⟩ = some (.int .i64 0)
  f0 : W.frozen? ⟨w.heap.size + 1, 0, none⟩ = false
  f1 : W.frozen? ⟨w.heap.size + 1, 1, none⟩ = false
  q0 : W.cell? ⟨w.heap.size + 1 + 1, 0, none⟩ = some (.int .u32 (m.1 : Nat))
  q1 : W.cell? ⟨w.heap.size + 1 + 1, 1, none⟩ = some (.int .i64 m.2)
  g0 : W.frozen? ⟨w.heap.size + 1 + 1, 0, none⟩ = false
  g1 : W.frozen? ⟨w.heap.size + 1 + 1, 1, none⟩ = false
theorem RepW.new (w : World) (nm : ByteArray) (len p : Int) (v : Value) (m : Nat × Int) (t t' : TypeId) : RepW w (((w.alloc (.cells #[.string nm, .int .i64 len, .int .u32 p, v] t)).alloc (.cells #[.int .u32 0, .int .i64 0] t')).alloc (.cells #[.int .u32 (m.1 : Nat), .int .i64 m.2] t')) v m where
  below := (((Below.refl _ w).alloc (Nat.le_refl _) _).alloc (by simp) _).alloc (by simp; omega) _
  size := by simp
  b3 := by rw [World.cell?_alloc_lt _ _ ⟨w.heap.size, 3, none⟩ (by simp; omega), World.cell?_alloc_lt _ _ ⟨w.heap.size, 3, none⟩ (by simp)]; simp
  r0 := by rw [World.cell?_alloc_lt _ _ ⟨w.heap.size + 1, 0, none⟩ (by simp)]; simp
  r1 := by rw [World.cell?_alloc_lt _ _ ⟨w.heap.size + 1, 1, none⟩ (by simp)]; simp
  f0 := by rw [frozen_alloc_lt' _ _ (by simp)]; simp
  f1 := by rw [frozen_alloc_lt' _ _ (by simp)]; simp
  q0 := new_cell _ _ _ rfl (by simp)
  q1 := new_cell _ _ _ rfl (by simp)
  g0 := new_frozen _ _ _ (by simp)
  g1 := new_frozen _ _ _ (by simp)
theorem RepW.next {w W W' : World} {v : Value} {m : Nat × Int} (h : RepW w W v m) (hb : Below W.heap.size W W') : RepW w W' v m := by
  have hs := h.size
  have hs' := hb.size
  exact ⟨h.below.trans (hb.mono h.below.size), by omega, (hb.cell (p := ⟨_, 3, none⟩) (by simp; omega)).trans h.b3, (hb.cell (p := ⟨_, 0, none⟩) (by simp; omega)).trans h.r0, (hb.cell (p := ⟨_, 1, none⟩) (by simp; omega)).trans h.r1, (hb.frozen (p := ⟨_, 0, none⟩) (by simp; omega)).trans h.f0, (hb.frozen (p := ⟨_, 1, none⟩) (by simp; omega)).trans h.f1,
    (hb.cell (p := ⟨_, 0, none⟩) (by simp; omega)).trans h.q0, (hb.cell (p := ⟨_, 1, none⟩) (by simp; omega)).trans h.q1, (hb.frozen (p := ⟨_, 0, none⟩) (by simp; omega)).trans h.g0, (hb.frozen (p := ⟨_, 1, none⟩) (by simp; omega)).trans h.g1⟩
theorem RepW.set {w W : World} {v : Value} {m : Nat × Int} (h : RepW w W v m) (y : Nat × Int) : RepW w ((W.setCell ⟨w.heap.size + 1 + 1, 0, none⟩ (.int .u32 (y.1 : Nat))).setCell ⟨w.heap.size + 1 + 1, 1, none⟩ (.int .i64 y.2)) v y := by
  have o : ∀ (b i : Nat), b ≠ w.heap.size + 1 + 1 → ((W.setCell ⟨w.heap.size + 1 + 1, 0, none⟩ (.int .u32 (y.1 : Nat))).setCell ⟨w.heap.size + 1 + 1, 1, none⟩ (.int .i64 y.2)).cell? ⟨b, i, none⟩ = W.cell? ⟨b, i, none⟩ := fun b i hb => by
    have hn : ∀ j, (⟨w.heap.size + 1 + 1, j, none⟩ : Addr) ≠ ⟨b, i, none⟩ := fun j e => hb (by cases e; rfl)
    rw [World.cell?_setCell_other _ _ _ _ (hn 1), World.cell?_setCell_other _ _ _ _ (hn 0)]
  refine ⟨(h.below.setCell (p := ⟨w.heap.size + 1 + 1, 0, none⟩) (by show _ ≤ w.heap.size + 1 + 1; omega) _).setCell (p := ⟨w.heap.size + 1 + 1, 1, none⟩) (by show _ ≤ w.heap.size + 1 + 1; omega) _, by simp [World.setCell]; exact h.size, (o _ _ (by omega)).trans h.b3, (o _ _ (by omega)).trans h.r0, (o _ _ (by omega)).trans h.r1, by rw [World.frozen?_setCell, World.frozen?_setCell]; exact h.f0, by rw [World.frozen?_setCell, World.frozen?_setCell]; exact h.f1, ?_, ?_, by rw [World.frozen?_setCell, World.frozen?_setCell]; exact h.g0, by rw [World.frozen?_setCell, World.frozen?_setCell]; exact h.g1⟩
  · rw [World.cell?_setCell_other _ _ _ _ (by simp), World.cell?_setCell_same' _ _ _ (by rw [h.q0]; rfl)]
  · rw [World.cell?_setCell_same' _ _ _ (by rw [World.cell?_setCell_other _ _ _ _ (by simp), h.q1]; rfl)]

set_option maxRecDepth 100000 in
set_option maxHeartbeats 4000000 in
theorem refRepOf_any (nm : ByteArray) (len p : Int) (v : Value) (ids : List (Nat × Int)) (w : World) (hv : IdsAt w v ids) (hlen : ids.length ≤ maxLen) :
    Calls Tryz.prog 25 #[rcpV nm len p v] w fun e w' => e = .returned (idV ((repOf ids).1 : Nat) (repOf ids).2) ∧ Below w.heap.size w w' := by
  obtain ⟨pa, c, rfl, hcell⟩ := hv
  have hl2 : (ids.length : Int) ≤ 9223372036854775807 := by unfold maxLen at hlen; omega
  clear hlen
  by_cases h0 : ids = []
  · subst h0
    go_enter Tryz.func25, Tryz.ntmps25
    go_wp2_with fail
    refine (idOf_any ⟨#[]⟩ _ (by unfold maxLen; decide)).mono ?_
    rintro e w1 ⟨rfl, hb1⟩
    rw [pmore_nil]
    have hs1 := hb1.size
    have k0 : w1.cell? ⟨w.heap.size + 1, 0, none⟩ = some (.int .u32 0) := (hb1.cell (p := ⟨w.heap.size + 1, 0, none⟩) (by simp)).trans (by simp)
    have k1 : w1.cell? ⟨w.heap.size + 1, 1, none⟩ = some (.int .i64 0) := (hb1.cell (p := ⟨w.heap.size + 1, 1, none⟩) (by simp)).trans (by simp)
    have f0 : w1.frozen? ⟨w.heap.size + 1, 0, none⟩ = false := (hb1.frozen (p := ⟨w.heap.size + 1, 0, none⟩) (by simp)).trans (by simp)
    have f1 : w1.frozen? ⟨w.heap.size + 1, 1, none⟩ = false := (hb1.frozen (p := ⟨w.heap.size + 1, 1, none⟩) (by simp)).trans (by simp)
    have hbw : Below w.heap.size w w1 := (((Below.refl _ w).alloc (Nat.le_refl _) _).alloc (by simp) _).trans (hb1.mono (by simp; omega))
    have hlt : w.heap.size + 1 < w1.heap.size := by simp at hs1; omega
    clear hb1 hs1
    go_wp2_with fail
    exact bodyPost_ret (v := idV (2166136261 : Nat) 0) (by simp [results, Tryz.results25, go_sem, k0, k1]) rfl ⟨rfl, (hbw.setCell (p := ⟨w.heap.size + 1, 0, none⟩) (by simp) _).setCell (p := ⟨w.heap.size + 1, 1, none⟩) (by simp) _⟩
  · have hn1 : 1 ≤ ids.length := by rcases Nat.eq_zero_or_pos ids.length with h | h; exact (h0 (List.eq_nil_of_length_eq_zero h)).elim; exact h
    have hn1' : (1 : Int) ≤ (ids.length : Int) := by omega
    have hz : ((ids.length : Int) == 0) = false := by rw [beq_eq_false_iff_ne]; omega
    clear h0
    obtain ⟨b, o, rfl, hbl, hc0, hc1⟩ := hcell 0 (by omega)
    rw [Nat.zero_mul, Nat.add_zero] at hc0 hc1
    have HCELL : Hid (∀ W', Below w.heap.size w W' → ∀ i (h : i < ids.length), W'.cell? ⟨b, o + i * 2, none⟩ = some (.int .u32 (ids[i].1 : Nat)) ∧ W'.cell? ⟨b, o + i * 2 + 1, none⟩ = some (.int .i64 ids[i].2)) := fun W' hb i hi => by
      obtain ⟨b', o', hp, hlt, h1, h2⟩ := hcell i hi
      cases hp
      exact ⟨(hb.cell (p := ⟨b, o + i * 2, none⟩) hlt).trans h1, (hb.cell (p := ⟨b, o + i * 2 + 1, none⟩) hlt).trans h2⟩
    clear hcell
    have hc0' : ∀ oo oo', ((w.alloc oo).alloc oo').cell? ⟨b, o, none⟩ = some (.int .u32 (ids[0].1 : Nat)) := fun oo oo' => by
      rw [World.cell?_alloc_lt _ _ ⟨b, o, none⟩ (by simp; omega), World.cell?_alloc_lt _ _ ⟨b, o, none⟩ hbl]; exact hc0
    have hc1' : ∀ oo oo', ((w.alloc oo).alloc oo').cell? ⟨b, o + 1, none⟩ = some (.int .i64 ids[0].2) := fun oo oo' => by
      rw [World.cell?_alloc_lt _ _ ⟨b, o + 1, none⟩ (by simp; omega), World.cell?_alloc_lt _ _ ⟨b, o + 1, none⟩ hbl]; exact hc1
    go_enter Tryz.func25, Tryz.ntmps25
    go_wp2_with fail
    have hR : RepW w (((w.alloc (.cells #[.string nm, .int .i64 len, .int .u32 p, .slice (some ⟨b, o, none⟩) ids.length c] 26)).alloc (.cells #[.int .u32 0, .int .i64 0] 40)).alloc (.cells #[.int .u32 (ids[0].1 : Nat), .int .i64 ids[0].2] 40)) (.slice (some ⟨b, o, none⟩) ids.length c) ids[0] := RepW.new w nm len p _ ids[0] _ _
    have HI0 : Hid (repOf (ids.take 1) = ids[0]) := by
      show _ = _
      cases ids with
      | nil => simp at hn1
      | cons x r => rfl
    clear hc0 hc1 hc0' hc1'
    go_loopw [4] (fun i wr => ∃ (k : Nat), 1 ≤ k ∧ k ≤ ids.length ∧ i = .int .i64 k ∧ RepW w wr (.slice (some ⟨b, o, none⟩) ids.length c) (repOf (ids.take k))) (fun i _ => ids.length - (intOf i).toNat)
    case atStart => exact ⟨1, Nat.le_refl _, hn1, rfl, by rw [HI0.out]; exact hR⟩
    case round =>
      obtain ⟨k, hk1, hk, rfl, hRW⟩ := hrel
      clear hR HI0
      have hb3 := hRW.b3
      by_cases hlt : k < ids.length
      · have hlt' : (k : Int) < (ids.length : Int) := by omega
        have hk1' : (0 : Int) ≤ (k : Int) := by omega
        obtain ⟨hd0, hd1⟩ := HCELL.out wr hRW.below k hlt
        have HNX : Hid (repOf (ids.take (k + 1)) = lesser (repOf (ids.take k)) ids[k]) := repOf_next ids k hlt hk1
        obtain ⟨m, hm⟩ : ∃ m, repOf (ids.take k) = m := ⟨_, rfl⟩
        obtain ⟨y, hy⟩ : ∃ y, ids[k] = y := ⟨_, rfl⟩
        rw [hm] at hRW HNX
        rw [hy] at HNX hd0 hd1
        have HCY : Hid (∀ W', Below w.heap.size w W' → W'.cell? ⟨b, o + k * 2, none⟩ = some (.int .u32 (y.1 : Nat)) ∧ W'.cell? ⟨b, o + k * 2 + 1, none⟩ = some (.int .i64 y.2)) := fun W' hb => by
          have := HCELL.out W' hb k hlt
          rwa [hy] at this
        clear hm hy
        have hq0 := hRW.q0
        have hq1 := hRW.q1
        obtain ⟨Lb, hL⟩ : ∃ Lb, (if (y.1 : Int) = (m.1 : Int) then decide (y.2 < m.2) else decide ((y.1 : Int) < (m.1 : Int))) = Lb := ⟨_, rfl⟩
        have HL : Hid ((if (y.1 : Int) = (m.1 : Int) then decide (y.2 < m.2) else decide ((y.1 : Int) < (m.1 : Int))) = Lb) := hL
        have HLS : Hid (lesser m y = if Lb = true then y else m) := by show _ = _; unfold lesser lessB; rw [hL]
        clear hL
        cases Lb with
        | true =>
          go_wp2_with fail
          go_region_held3 (fun w' => w'.cell? ⟨w.heap.size, 3, none⟩ = some (.slice (some ⟨b, o, none⟩) ids.length c) ∧ w'.cell? ⟨b, o + k * 2, none⟩ = some (.int .u32 (y.1 : Nat)) ∧ w'.cell? ⟨b, o + k * 2 + 1, none⟩ = some (.int .i64 y.2) ∧ w'.cell? ⟨w.heap.size + 1 + 1, 0, none⟩ = some (.int .u32 (m.1 : Nat)) ∧ w'.cell? ⟨w.heap.size + 1 + 1, 1, none⟩ = some (.int .i64 m.2)) (go_keep) (first
            | (go_at_call 73; refine (isLess_any _ _ _ _ _).mono ?_; rintro e w2 ⟨rfl, hb2⟩; rw [HL.out]; have hR2 : RepW w w2 (.slice (some ⟨b, o, none⟩) ids.length c) m := hRW.next ((Below.refl _ wr).drew.trans (hb2.mono (Nat.le_refl _))); have z0 := hR2.b3; have z1 := hR2.q0; have z2 := hR2.q1; have z3 := hR2.g0; have z4 := hR2.g1; obtain ⟨z5, z6⟩ := HCY.out w2 hR2.below))
          go_wp2_with fail
          go_roundw
          case rel => exact ⟨k + 1, by omega, by omega, by go_num, by rw [HNX.out, HLS.out]; exact hR2.set y⟩
          case measure => simp [intOf]; omega
        | false =>
          go_wp2_with fail
          go_region_held3 (fun w' => w'.cell? ⟨w.heap.size, 3, none⟩ = some (.slice (some ⟨b, o, none⟩) ids.length c) ∧ w'.cell? ⟨b, o + k * 2, none⟩ = some (.int .u32 (y.1 : Nat)) ∧ w'.cell? ⟨b, o + k * 2 + 1, none⟩ = some (.int .i64 y.2) ∧ w'.cell? ⟨w.heap.size + 1 + 1, 0, none⟩ = some (.int .u32 (m.1 : Nat)) ∧ w'.cell? ⟨w.heap.size + 1 + 1, 1, none⟩ = some (.int .i64 m.2)) (go_keep) (first
            | (go_at_call 73; refine (isLess_any _ _ _ _ _).mono ?_; rintro e w2 ⟨rfl, hb2⟩; rw [HL.out]; have hR2 : RepW w w2 (.slice (some ⟨b, o, none⟩) ids.length c) m := hRW.next ((Below.refl _ wr).drew.trans (hb2.mono (Nat.le_refl _))); have z0 := hR2.b3; have z1 := hR2.q0; have z2 := hR2.q1; have z3 := hR2.g0; have z4 := hR2.g1; obtain ⟨z5, z6⟩ := HCY.out w2 hR2.below))
          go_wp2_with fail
          go_roundw
          case rel => exact ⟨k + 1, by omega, by omega, by go_num, by rw [HNX.out, HLS.out]; exact hR2⟩
          case measure => simp [intOf]; omega
      · have hge : (ids.length : Int) ≤ (k : Int) := by omega
        rw [List.take_of_length_le (by omega)] at hRW
        obtain ⟨m, hm⟩ : ∃ m, repOf ids = m := ⟨_, rfl⟩
        have HM : Hid (repOf ids = m) := hm
        rw [hm] at hRW
        clear hm
        have hq0 := hRW.q0
        have hq1 := hRW.q1
        have k0 := hRW.r0
        have k1 := hRW.r1
        have f0 := hRW.f0
        have f1 := hRW.f1
        go_wp2_with fail
        exact bodyPost_ret (v := idV (m.1 : Nat) m.2) (by simp [results, Tryz.results25, go_sem, k0, k1]) rfl ⟨by rw [HM.out], (hRW.below.setCell (p := ⟨w.heap.size + 1, 0, none⟩) (by simp) _).setCell (p := ⟨w.heap.size + 1, 1, none⟩) (by simp) _⟩
end Go.Proofs.YteefjbdejcpepaaGreatDoor
namespace Go.Proofs.YteefjbdejcpepaaGreatDoor
open Go.RowKit

def idsText (ids : List (Nat × Int)) : List UInt8 := (ids.map fun x => 32 :: idText x.1 x.2.toNat).flatten
def rcpText (nm : List UInt8) (len : Int) (p : Nat) (ids : List (Nat × Int)) : List UInt8 := nm ++ [32] ++ Lib.decDigits len.toNat ++ [32] ++ hexLast p 8 ++ idsText ids
theorem idsText_snoc (ids : List (Nat × Int)) (k : Nat) (h : k < ids.length) : idsText (ids.take (k + 1)) = idsText (ids.take k) ++ [32] ++ idText ids[k].1 ids[k].2.toNat := by
  rw [List.take_succ_eq_append_getElem h, idsText, List.map_append, List.flatten_append]
  simp [idsText]
theorem bytes_append (a b : ByteArray) : (a ++ b).data.toList = a.data.toList ++ b.data.toList := by
  rw [ByteArray.data_append, Array.toList_append]
theorem sz_blank : (⟨#[32]⟩ : ByteArray).size = 1 := rfl
theorem add_eq (a b : ByteArray) (h : a.size + b.size ≤ 100000) : ∃ c : ByteArray, (∀ w : World, (Op.stringOp .add a b).run Tryz.prog w = .ok (.string c) w) ∧ c.data.toList = a.data.toList ++ b.data.toList ∧ c.size = a.size + b.size :=
  ⟨a ++ b, fun w => run_string_add_sum w a b (by omega), bytes_append a b, ByteArray.size_append⟩
theorem bytes_of (l : List UInt8) : (⟨l.toArray⟩ : ByteArray).data.toList = l := by simp
theorem bytes_eq {a : ByteArray} {l : List UInt8} (h : a.data.toList = l) : a = ⟨l.toArray⟩ := by
  apply ByteArray.ext
  apply Array.toList_inj.1
  rw [h]
theorem idText_len (n l : Nat) (h : l ≤ 9223372036854775807) : (idText n l).length ≤ 28 := by
  have := decDigits_le19 l h
  simp [idText, hexLast_length]
  omega

set_option maxRecDepth 100000 in
set_option maxHeartbeats 4000000 in
theorem recipeText_any (nm : ByteArray) (hnm : nm.size ≤ 12) (len p : Nat) (hlen : len ≤ 4000) (hp : p < 4294967296) (v : Value) (ids : List (Nat × Int)) (w : World) (hv : IdsAt w v ids) (hids : ids.length ≤ 250)
    (hok : ∀ j (hj : j < ids.length), idOk ids[j] = true) (h32 : ∀ j (hj : j < ids.length), ids[j].1 < 4294967296) :
    Calls Tryz.prog 24 #[rcpV nm (len : Nat) (p : Nat) v] w fun e w' => e = .returned (.string ⟨(rcpText nm.data.toList len p ids).toArray⟩) ∧ Below w.heap.size w w' := by
  obtain ⟨pa, c, rfl, hcell⟩ := hv
  have HCELL : Hid (∀ W', Below w.heap.size w W' → ∀ i (h : i < ids.length), ∃ b o, pa = some ⟨b, o, none⟩ ∧ W'.cell? ⟨b, o + i * 2, none⟩ = some (.int .u32 (ids[i].1 : Nat)) ∧ W'.cell? ⟨b, o + i * 2 + 1, none⟩ = some (.int .i64 ids[i].2)) := fun W' hb i hi => by
    obtain ⟨b, o, hp, hlt, h1, h2⟩ := hcell i hi
    exact ⟨b, o, hp, (hb.cell (p := ⟨b, o + i * 2, none⟩) hlt).trans h1, (hb.cell (p := ⟨b, o + i * 2 + 1, none⟩) hlt).trans h2⟩
  have HOK : Hid (∀ j (hj : j < ids.length), idOk ids[j] = true) := hok
  have H32 : Hid (∀ j (hj : j < ids.length), ids[j].1 < 4294967296) := h32
  have HP : Hid (p < 4294967296) := hp
  have HL : Hid (len ≤ 4000) := hlen
  have HD : Hid ((Lib.decDigits len).length ≤ 19) := decDigits_le19 len (by omega)
  have hi2 : (ids.length : Int) ≤ 250 := by omega
  clear hcell hok h32 hp hlen
  obtain ⟨D, hD⟩ : ∃ D : ByteArray, (⟨(Lib.decDigits len).toArray⟩ : ByteArray) = D := ⟨_, rfl⟩
  obtain ⟨X, hX⟩ : ∃ X : ByteArray, (⟨(hexLast p 8).toArray⟩ : ByteArray) = X := ⟨_, rfl⟩
  have HDD : Hid ((⟨(Lib.decDigits len).toArray⟩ : ByteArray) = D) := hD
  have HXX : Hid ((⟨(hexLast p 8).toArray⟩ : ByteArray) = X) := hX
  have hDs : D.size ≤ 19 := by rw [← hD]; exact HD.out
  have hXs : X.size = 8 := by rw [← hX]; exact hexLast_length p 8
  clear hD hX
  obtain ⟨S1, hS1, hT1, hZ1⟩ := add_eq nm ⟨#[32]⟩ (by rw [sz_blank]; omega)
  obtain ⟨S2, hS2, hT2, hZ2⟩ := add_eq S1 D (by rw [hZ1, sz_blank]; omega)
  obtain ⟨S3, hS3, hT3, hZ3⟩ := add_eq S2 ⟨#[32]⟩ (by rw [hZ2, hZ1, sz_blank]; omega)
  obtain ⟨S4, hS4, hT4, hZ4⟩ := add_eq S3 X (by rw [hZ3, hZ2, hZ1, sz_blank]; omega)
  have HT : Hid (S4.data.toList = nm.data.toList ++ [32] ++ Lib.decDigits len ++ [32] ++ hexLast p 8) := by
    show _ = _
    rw [hT4, hT3, hT2, hT1, ← HDD.out, ← HXX.out]
  have HZ : Hid (S4.size ≤ 100) := by show _ ≤ _; rw [hZ4, hZ3, hZ2, hZ1, sz_blank]; omega
  clear hT1 hT2 hT3 hT4 hZ1 hZ2 hZ3 hZ4 hDs hXs
  go_enter Tryz.func24, Tryz.ntmps24
  go_wp2_with fail
  have hB0 : Below w.heap.size w (w.alloc (.cells #[.string nm, .int .i64 (len : Nat), .int .u32 (p : Nat), .slice pa ids.length c] 26)) := (Below.refl _ w).alloc (Nat.le_refl _) _
  have c0 := new_cell w #[.string nm, .int .i64 (len : Nat), .int .u32 (p : Nat), .slice pa ids.length c] 26 (i := 0) rfl rfl
  have c1 := new_cell w #[.string nm, .int .i64 (len : Nat), .int .u32 (p : Nat), .slice pa ids.length c] 26 (i := 1) rfl rfl
  have c2 := new_cell w #[.string nm, .int .i64 (len : Nat), .int .u32 (p : Nat), .slice pa ids.length c] 26 (i := 2) rfl rfl
  have c3 := new_cell w #[.string nm, .int .i64 (len : Nat), .int .u32 (p : Nat), .slice pa ids.length c] 26 (i := 3) rfl rfl
  have hsz : w.heap.size < (w.alloc (.cells #[.string nm, .int .i64 (len : Nat), .int .u32 (p : Nat), .slice pa ids.length c] 26)).heap.size := by simp
  obtain ⟨W, hW⟩ : ∃ W, w.alloc (.cells #[.string nm, .int .i64 (len : Nat), .int .u32 (p : Nat), .slice pa ids.length c] 26) = W := ⟨_, rfl⟩
  rw [hW] at hB0 c0 c1 c2 c3 hsz ⊢
  clear hW
  have HK : Hid (∀ W', Below W.heap.size W W' → W'.cell? ⟨w.heap.size, 0, none⟩ = some (.string nm) ∧ W'.cell? ⟨w.heap.size, 1, none⟩ = some (.int .i64 (len : Nat)) ∧ W'.cell? ⟨w.heap.size, 2, none⟩ = some (.int .u32 (p : Nat)) ∧ W'.cell? ⟨w.heap.size, 3, none⟩ = some (.slice pa ids.length c)) := fun W' hb =>
    ⟨(hb.cell (p := ⟨w.heap.size, 0, none⟩) hsz).trans c0, (hb.cell (p := ⟨w.heap.size, 1, none⟩) hsz).trans c1, (hb.cell (p := ⟨w.heap.size, 2, none⟩) hsz).trans c2, (hb.cell (p := ⟨w.heap.size, 3, none⟩) hsz).trans c3⟩
  go_region_held3 (fun w' => w'.cell? ⟨w.heap.size, 0, none⟩ = some (.string nm) ∧ w'.cell? ⟨w.heap.size, 1, none⟩ = some (.int .i64 (len : Nat)) ∧ w'.cell? ⟨w.heap.size, 2, none⟩ = some (.int .u32 (p : Nat))) (go_keep) (first
    | (go_at_call 70; refine (decimal_any len (by have := HL.out; omega) _).mono ?_; rintro e w2 ⟨rfl, hb2⟩; rw [HDD.out]; have hB2 : Below W.heap.size W w2 := (Below.refl _ W).drew.trans (hb2.mono (Nat.le_refl _)); obtain ⟨d0, d1, d2, d3⟩ := HK.out w2 hB2)
    | (go_at_call 71; refine (hexOf_any p HP.out _).mono ?_; rintro e w3 ⟨rfl, hb3⟩; rw [HXX.out]; have hB3 : Below W.heap.size W w3 := hB2.trans (hb3.mono hB2.size); obtain ⟨e0, e1, e2, e3⟩ := HK.out w3 hB3))
  go_wp2_with fail
  have hB3w : Below w.heap.size w w3 := hB0.trans (hB3.mono hB0.size)
  clear hS1 hS2 hS3 hS4 hb2 hb3 d0 d1 d2 d3 e0 e1 e2 e3 c0 c1 c2 c3 hB2 HDD HXX HP HL HD
  go_loopw [3, 4] (fun v i wr => ∃ (k : Nat) (ab : ByteArray), k ≤ ids.length ∧ i = .int .i64 k ∧ v = .string ab ∧ ab.data.toList = nm.data.toList ++ [32] ++ Lib.decDigits len ++ [32] ++ hexLast p 8 ++ idsText (ids.take k) ∧ ab.size ≤ 100 + 30 * k ∧ Below W.heap.size W wr) (fun _ i _ => ids.length - (intOf i).toNat)
  case atStart => exact ⟨0, S4, Nat.zero_le _, rfl, rfl, by rw [HT.out]; simp [idsText], HZ.out, hB3⟩
  case round =>
    obtain ⟨k, ab, hk, rfl, rfl, hab, habs, hbr⟩ := hrel
    have HAB : Hid (ab.data.toList = nm.data.toList ++ [32] ++ Lib.decDigits len ++ [32] ++ hexLast p 8 ++ idsText (ids.take k)) := hab
    have HAS : Hid (ab.size ≤ 100 + 30 * k) := habs
    clear hab habs
    obtain ⟨_, _, _, f3⟩ := HK.out wr hbr
    have hbrw : Below w.heap.size w wr := hB0.trans (hbr.mono hB0.size)
    by_cases hlt : k < ids.length
    · have hlt' : (k : Int) < (ids.length : Int) := by omega
      obtain ⟨b, o, rfl, hd0, hd1⟩ := HCELL.out wr hbrw k hlt
      have hok := HOK.out k hlt
      have h32 := H32.out k hlt
      have HNX : Hid (idsText (ids.take (k + 1)) = idsText (ids.take k) ++ [32] ++ idText ids[k].1 ids[k].2.toNat) := idsText_snoc ids k hlt
      obtain ⟨⟨n, l⟩, hy⟩ : ∃ y, ids[k] = y := ⟨_, rfl⟩
      rw [hy] at hok h32 hd0 hd1 HNX
      simp only [idOk, decide_eq_true_eq] at hok
      obtain ⟨l', rfl⟩ := Int.eq_ofNat_of_zero_le (show 0 ≤ l by omega)
      have HH : Hid (n < 4294967296) := h32
      have HLL : Hid (l' ≤ 64) := by show _ ≤ _; omega
      obtain ⟨I, hI⟩ : ∃ I : ByteArray, (⟨(idText n l').toArray⟩ : ByteArray) = I := ⟨_, rfl⟩
      have HII : Hid ((⟨(idText n l').toArray⟩ : ByteArray) = I) := hI
      have hIs : I.size ≤ 28 := by rw [← hI]; exact idText_len n l' (by omega)
      have has := HAS.out
      obtain ⟨S5, hS5, hT5, hZ5⟩ := add_eq ab ⟨#[32]⟩ (by rw [sz_blank]; omega)
      obtain ⟨S6, hS6, hT6, hZ6⟩ := add_eq S5 I (by rw [hZ5, sz_blank]; omega)
      have HT6 : Hid (S6.data.toList = nm.data.toList ++ [32] ++ Lib.decDigits len ++ [32] ++ hexLast p 8 ++ idsText (ids.take (k + 1))) := by
        show _ = _
        rw [hT6, hT5, HAB.out, HNX.out, ← hI]
        simp
      have HZ6 : Hid (S6.size ≤ 100 + 30 * (k + 1)) := by show _ ≤ _; rw [hZ6, hZ5, sz_blank]; omega
      clear hT5 hT6 hZ5 hZ6 hI hIs has hok h32 hy
      go_wp2_with fail
      refine (idText_any n l' HH.out (by have := HLL.out; omega) _).mono ?_
      rintro e w4 ⟨rfl, hb4⟩
      rw [HII.out]
      go_wp2_with fail
      go_roundw
      case rel => exact ⟨k + 1, S6, by omega, by go_num, rfl, HT6.out, HZ6.out, hbr.trans (hb4.mono hbr.size)⟩
      case measure => simp [intOf]; omega
    · have hge : (ids.length : Int) ≤ (k : Int) := by omega
      go_wp2_with fail
      go_ret
      refine ⟨?_, hbrw⟩
      have e := HAB.out
      rw [List.take_of_length_le (by omega)] at e
      have e2 : ab = ⟨(rcpText nm.data.toList len p ids).toArray⟩ := bytes_eq (by rw [e]; rfl)
      rw [e2]
      rfl
end Go.Proofs.YteefjbdejcpepaaGreatDoor
namespace Go.Proofs.YteefjbdejcpepaaGreatDoor
open Go.RowKit

def idsOf (l : List UInt8) : List (Nat × Int) := (pieces l).map fun p => (pmore 2166136261 p, (p.length : Int))
def idCells : List (Nat × Int) → List Value
  | [] => []
  | x :: r => .int .u32 (x.1 : Nat) :: .int .i64 x.2 :: idCells r
theorem idCells_append : ∀ (a b : List (Nat × Int)), idCells (a ++ b) = idCells a ++ idCells b
  | [], _ => rfl
  | x :: r, b => by rw [List.cons_append, idCells, idCells_append r b, idCells]; rfl
theorem idCells_length : ∀ (a : List (Nat × Int)), (idCells a).length = a.length * 2
  | [] => rfl
  | x :: r => by rw [idCells, List.length_cons, List.length_cons, idCells_length r, List.length_cons]; omega
theorem idCells_at : ∀ (a : List (Nat × Int)) (i : Nat) (h : i < a.length), (idCells a)[i * 2]? = some (.int .u32 (a[i].1 : Nat)) ∧ (idCells a)[i * 2 + 1]? = some (.int .i64 a[i].2)
  | x :: r, 0, _ => ⟨rfl, rfl⟩
  | x :: r, i + 1, h => by
    have := idCells_at r i (by simpa using h)
    rw [show (i + 1) * 2 = i * 2 + 1 + 1 by omega]
    exact this
/- The same, and the IDs lie from block 'base' on. -/
def IdsIn (base : Nat) (w : World) (v : Value) (ids : List (Nat × Int)) : Prop :=
  ∃ (p : Option Addr) (c : Nat), v = .slice p ids.length c ∧ ∀ i (h : i < ids.length), ∃ b o, p = some ⟨b, o, none⟩ ∧ base ≤ b ∧ b < w.heap.size ∧ w.cell? ⟨b, o + i * 2, none⟩ = some (.int .u32 (ids[i].1 : Nat)) ∧ w.cell? ⟨b, o + i * 2 + 1, none⟩ = some (.int .i64 ids[i].2)
theorem IdsIn.at {base : Nat} {w : World} {v : Value} {ids : List (Nat × Int)} (h : IdsIn base w v ids) : IdsAt w v ids := by
  obtain ⟨p, c, hv, h⟩ := h
  refine ⟨p, c, hv, fun i hi => ?_⟩
  obtain ⟨b, o, hp, _, hlt, h1, h2⟩ := h i hi
  exact ⟨b, o, hp, hlt, h1, h2⟩
theorem IdsIn.low {base base' : Nat} {w : World} {v : Value} {ids : List (Nat × Int)} (h : IdsIn base w v ids) (hb : base' ≤ base) : IdsIn base' w v ids := by
  obtain ⟨p, c, hv, h⟩ := h
  refine ⟨p, c, hv, fun i hi => ?_⟩
  obtain ⟨b, o, hp, hl, h⟩ := h i hi
  exact ⟨b, o, hp, Nat.le_trans hb hl, h⟩
theorem IdsIn.below {base : Nat} {w w' : World} {v : Value} {ids : List (Nat × Int)} (h : IdsIn base w v ids) (hb : Below w.heap.size w w') : IdsIn base w' v ids := by
  obtain ⟨p, c, hv, h⟩ := h
  refine ⟨p, c, hv, fun i hi => ?_⟩
  obtain ⟨b, o, hp, hl, hlt, h1, h2⟩ := h i hi
  exact ⟨b, o, hp, hl, Nat.lt_of_lt_of_le hlt hb.size, (hb.cell (p := ⟨b, o + i * 2, none⟩) hlt).trans h1, (hb.cell (p := ⟨b, o + i * 2 + 1, none⟩) hlt).trans h2⟩
theorem IdsIn.setCell {base : Nat} {w : World} {v : Value} {ids : List (Nat × Int)} (h : IdsIn base w v ids) {a : Addr} (ha : a.block < base) (u : Value) : IdsIn base (w.setCell a u) v ids := by
  obtain ⟨p, c, hv, h⟩ := h
  refine ⟨p, c, hv, fun i hi => ?_⟩
  obtain ⟨b, o, hp, hl, hlt, h1, h2⟩ := h i hi
  have hn : ∀ j, a ≠ ⟨b, j, none⟩ := fun j e => by rw [e] at ha; simp at ha; omega
  exact ⟨b, o, hp, hl, by simp [World.setCell]; exact hlt, by rw [World.cell?_setCell_other _ _ _ _ (hn _)]; exact h1, by rw [World.cell?_setCell_other _ _ _ _ (hn _)]; exact h2⟩
theorem IdsIn.nil (base : Nat) (w : World) : IdsIn base w (.slice none 0 0) [] := ⟨none, 0, rfl, fun i hi => by simp at hi⟩
theorem IdsIn.of_row {w : World} {base : Nat} {e : TypeId} {v : Value} {ids : List (Nat × Int)} (h : w.ownsRow base e 2 v ids.length (idCells ids)) : IdsIn base w v ids := by
  obtain ⟨hl, h⟩ := h
  rcases h with ⟨rfl, h0⟩ | ⟨g, cap, cur, rfl, hg, hb, h1, h2, h3, h4⟩
  · exact ⟨none, 0, by rw [h0], fun i hi => by omega⟩
  · have hgl : g < w.heap.size := by
      rcases Nat.lt_or_ge g w.heap.size with h' | h'
      · exact h'
      · simp [Array.getElem?_eq_none h'] at hb
    have hc : ∀ j u, (idCells ids)[j]? = some u → w.cell? ⟨g, 0 + j, none⟩ = some u := fun j u hj => by
      have hjl : j < (idCells ids).length := (List.getElem?_eq_some_iff.1 hj).1
      have e1 : cur.toList[j]? = some u := by
        rw [← hj, ← h4, List.getElem?_take, if_pos (by omega)]
      rw [Nat.zero_add]
      simp only [World.cell?, hb]
      rw [← Array.getElem?_toList, e1]
      simp
    exact ⟨some ⟨g, 0, none⟩, cap, rfl, fun i hi => ⟨g, 0, rfl, hg, hgl, hc _ _ (idCells_at ids i hi).1, hc _ _ (idCells_at ids i hi).2⟩⟩
theorem IdsAt.of_row {w : World} {base : Nat} {e : TypeId} {v : Value} {ids : List (Nat × Int)} (h : w.ownsRow base e 2 v ids.length (idCells ids)) : IdsAt w v ids := (IdsIn.of_row h).at
theorem IdsAt.nil (w : World) : IdsAt w (.slice none 0 0) [] := ⟨none, 0, rfl, fun i hi => by simp at hi⟩
theorem two_new (W : World) (a b : Value) (t : TypeId) (B : Nat) (hB : B = W.heap.size) : ∀ j u, [a, b][j]? = some u → (W.alloc (.cells #[a, b] t)).cell? ((⟨B, 0, none⟩ : Addr).add j) = some u := by
  intro j u hj
  match j, hj with
  | 0, hj =>
    have : (⟨B, 0, none⟩ : Addr).add 0 = ⟨B, 0, none⟩ := rfl
    rw [this]
    exact new_cell W #[a, b] t (by simpa using hj) hB
  | 1, hj =>
    have : (⟨B, 0, none⟩ : Addr).add 1 = ⟨B, 1, none⟩ := rfl
    rw [this]
    exact new_cell W #[a, b] t (by simpa using hj) hB
  | j + 2, hj => simp at hj
theorem infoID : (Tryz.prog.info? 40).map (fun i => (i.zero, i.size, i.bytes)) = some (some (idV 0 0), 2, 16) := by kernel_rfl

set_option maxRecDepth 100000 in
set_option maxHeartbeats 4000000 in
theorem recipeOf_name (nm s : ByteArray) (hnm : nm.size ≤ maxLen) (h : isName nm.data.toList = false) (w : World) :
    Calls Tryz.prog 20 #[.string nm, .string s] w fun e w' => e = .returned (.tuple #[rcpV ⟨#[]⟩ 0 0 (.slice none 0 0), .int .i64 4]) ∧ Below w.heap.size w w' := by
  have HN : Hid (nm.size ≤ maxLen) := hnm
  clear hnm
  go_enter Tryz.func20, Tryz.ntmps20
  go_wp2_with fail
  refine (refIsName_any nm HN.out _).mono ?_
  rintro e w1 ⟨rfl, rfl⟩
  rw [h]
  go_wp2_with fail
  exact bodyPost_ret (v := .tuple #[rcpV ⟨#[]⟩ 0 0 (.slice none 0 0), .int .i64 4]) (by simp [results, Tryz.results20, go_sem]) rfl ⟨rfl, (Below.refl _ w).alloc (Nat.le_refl _) _⟩

set_option maxRecDepth 100000 in
set_option maxHeartbeats 4000000 in
theorem recipeOf_bound (nm s : ByteArray) (hnm : nm.size ≤ maxLen) (h : isName nm.data.toList = true) (hs : 4000 < s.size) (w : World) :
    Calls Tryz.prog 20 #[.string nm, .string s] w fun e w' => e = .returned (.tuple #[rcpV ⟨#[]⟩ 0 0 (.slice none 0 0), .int .i64 2]) ∧ Below w.heap.size w w' := by
  have HN : Hid (nm.size ≤ maxLen) := hnm
  have hs' : (4000 : Int) < (s.size : Int) := by omega
  clear hnm hs
  go_enter Tryz.func20, Tryz.ntmps20
  go_wp2_with fail
  refine (refIsName_any nm HN.out _).mono ?_
  rintro e w1 ⟨rfl, rfl⟩
  rw [h]
  go_wp2_with fail
  exact bodyPost_ret (v := .tuple #[rcpV ⟨#[]⟩ 0 0 (.slice none 0 0), .int .i64 2]) (by simp [results, Tryz.results20, go_sem]) rfl ⟨rfl, (Below.refl _ w).alloc (Nat.le_refl _) _⟩

set_option maxRecDepth 100000 in
set_option maxHeartbeats 4000000 in
theorem recipeOf_fine (nm s : ByteArray) (hnm : nm.size ≤ maxLen) (h : isName nm.data.toList = true) (hs : s.size ≤ 4000) (w : World) :
    Calls Tryz.prog 20 #[.string nm, .string s] w fun e w' => ∃ v, e = .returned (.tuple #[rcpV nm s.size (pmore 2166136261 s.data.toList : Nat) v, .int .i64 0]) ∧ IdsIn w.heap.size w' v (idsOf s.data.toList) ∧ Below w.heap.size w w' := by
  obtain ⟨i0, hi, hz0, hz1, hz2⟩ := info_parts infoID
  have HN : Hid (nm.size ≤ maxLen) := hnm
  have hs' : ¬ (4000 : Int) < (s.size : Int) := by omega
  have HS : Hid (s.size ≤ 4000) := hs
  have HSM : Hid (s.size ≤ maxLen) := by show _ ≤ _; unfold maxLen; omega
  have HPL : Hid ((pieces s.data.toList).length ≤ 4000) := Nat.le_trans (pieces_len_le _) (by rw [Array.length_toList]; exact hs)
  have HPS : Hid (∀ i (h : i < (pieces s.data.toList).length), ((pieces s.data.toList)[i]).length ≤ 64) := fun i h => (pieces_at _ i h).2.1
  clear hnm hs
  have hP := piecesOf_any s (by have := HS.out; omega)
  have HIO : Hid (idsOf s.data.toList = (pieces s.data.toList).map fun p => (pmore 2166136261 p, (p.length : Int))) := rfl
  rw [HIO.out]
  clear HIO
  generalize pieces s.data.toList = qs at *
  have HP : Hid (∀ (w : World), Calls Tryz.prog 65 #[.string s] w fun e w' => ∃ v, e = .returned v ∧ w'.ownsRow w.heap.size 9 1 v qs.length (qs.map strW) ∧ Below w.heap.size w w') := hP
  clear hP
  go_enter Tryz.func20, Tryz.ntmps20
  go_wp2_with fail
  refine (refIsName_any nm HN.out _).mono ?_
  rintro e w1 ⟨rfl, rfl⟩
  rw [h]
  clear h
  go_wp2_with fail
  refine (HP.out _).mono ?_
  clear HP
  rintro e w0 ⟨v0, rfl, ho0, hb0⟩
  obtain ⟨p0, c0, rfl, hcell⟩ := CellsAt.of_row ho0
  simp only [List.length_map, List.getElem_map] at hcell ⊢
  have hs0 := hb0.size
  have r0 : w0.cell? ⟨w.heap.size, 0, none⟩ = some (.string ⟨#[]⟩) := (hb0.cell (p := ⟨w.heap.size, 0, none⟩) (by simp)).trans (by simp)
  have r1 : w0.cell? ⟨w.heap.size, 1, none⟩ = some (.int .i64 0) := (hb0.cell (p := ⟨w.heap.size, 1, none⟩) (by simp)).trans (by simp)
  have r2 : w0.cell? ⟨w.heap.size, 2, none⟩ = some (.int .u32 0) := (hb0.cell (p := ⟨w.heap.size, 2, none⟩) (by simp)).trans (by simp)
  have r3 : w0.cell? ⟨w.heap.size, 3, none⟩ = some (.slice none 0 0) := (hb0.cell (p := ⟨w.heap.size, 3, none⟩) (by simp)).trans (by simp)
  have g : ∀ i, w0.frozen? ⟨w.heap.size, i, none⟩ = false := fun i => (hb0.frozen (p := ⟨w.heap.size, i, none⟩) (by simp)).trans (new_frozen w _ _ rfl)
  have hlt0 : w.heap.size < w0.heap.size := by simp at hs0; omega
  have hbw0 : Below w.heap.size w w0 := ((Below.refl _ w).alloc (Nat.le_refl _) _).trans (hb0.mono (by simp))
  have HR : Hid (∀ W', Below w0.heap.size w0 W' → (W'.cell? ⟨w.heap.size, 0, none⟩ = some (.string ⟨#[]⟩) ∧ W'.cell? ⟨w.heap.size, 1, none⟩ = some (.int .i64 0) ∧ W'.cell? ⟨w.heap.size, 2, none⟩ = some (.int .u32 0) ∧ W'.cell? ⟨w.heap.size, 3, none⟩ = some (.slice none 0 0)) ∧ ∀ i, W'.frozen? ⟨w.heap.size, i, none⟩ = false) := fun W' hb =>
    ⟨⟨(hb.cell (p := ⟨w.heap.size, 0, none⟩) hlt0).trans r0, (hb.cell (p := ⟨w.heap.size, 1, none⟩) hlt0).trans r1, (hb.cell (p := ⟨w.heap.size, 2, none⟩) hlt0).trans r2, (hb.cell (p := ⟨w.heap.size, 3, none⟩) hlt0).trans r3⟩, fun i => (hb.frozen (p := ⟨w.heap.size, i, none⟩) hlt0).trans (g i)⟩
  have HCELL : Hid (∀ i (h : i < qs.length), ∃ b o, p0 = some ⟨b, o, none⟩ ∧ ∀ W', Below w0.heap.size w0 W' → W'.cell? ⟨b, o + i, none⟩ = some (strW qs[i])) := fun i hi => by
    obtain ⟨b, o, hp, hl, hc⟩ := hcell i hi
    exact ⟨b, o, hp, fun W' hb => (hb.cell (p := ⟨b, o + i, none⟩) hl.1).trans hc⟩
  have hql : (qs.length : Int) ≤ 4000 := by have := HPL.out; omega
  clear hcell ho0 hb0 hs0 r0 r1 r2 r3 g
  go_wp2_with fail
  go_loopw [7, 9] (fun v i wr => ∃ (k : Nat), k ≤ qs.length ∧ i = .int .i64 k ∧ wr.ownsRow w0.heap.size 40 2 v k (idCells ((qs.take k).map fun p => (pmore 2166136261 p, (p.length : Int)))) ∧ Below w0.heap.size w0 wr) (fun _ i _ => qs.length - (intOf i).toNat)
  case atStart => exact ⟨0, Nat.zero_le _, rfl, World.ownsRow_nil _ _ _ _, Below.refl _ _⟩
  case round =>
    obtain ⟨k, hk, rfl, hown, hbr⟩ := hrel
    by_cases hlt : k < qs.length
    · have hlt' : (k : Int) < (qs.length : Int) := by omega
      obtain ⟨b, o, rfl, hc⟩ := HCELL.out k hlt
      have hc' := hc wr hbr
      have HNX : Hid (idCells ((qs.take (k + 1)).map fun p => (pmore 2166136261 p, (p.length : Int))) = idCells ((qs.take k).map fun p => (pmore 2166136261 p, (p.length : Int))) ++ [.int .u32 (pmore 2166136261 qs[k] : Nat), .int .i64 (qs[k].length : Int)]) := by
        show _ = _
        rw [List.take_succ_eq_append_getElem hlt, List.map_append, idCells_append]
        rfl
      obtain ⟨q, hq⟩ : ∃ q : ByteArray, (⟨qs[k].toArray⟩ : ByteArray) = q := ⟨_, rfl⟩
      have hqd : q.data.toList = qs[k] := by rw [← hq]
      have hqs : (q.size : Int) = (qs[k].length : Int) := by rw [← hq]; rfl
      have HQM : Hid (q.size ≤ maxLen) := by
        show _ ≤ _
        have := HPS.out k hlt
        unfold maxLen
        omega
      rw [strW, hq] at hc'
      rw [← hqd] at HNX
      obtain ⟨P, hP⟩ : ∃ P, pmore 2166136261 q.data.toList = P := ⟨_, rfl⟩
      have HPP : Hid (pmore 2166136261 q.data.toList = P) := hP
      rw [hP] at HNX
      rw [hqd, ← hqs] at HNX
      obtain ⟨L, hL⟩ : ∃ L : Int, (q.size : Int) = L := ⟨_, rfl⟩
      have HLL : Hid ((q.size : Int) = L) := hL
      rw [hL] at HNX
      clear hc hqs hqd hq hP hL
      go_wp2_with fail
      refine (idOf_any q _ HQM.out).mono ?_
      rintro e w2 ⟨rfl, hb2⟩
      rw [HPP.out, HLL.out]
      have hown2 := row_below hown hb2
      have hbr2 : Below w0.heap.size w0 w2 := hbr.trans (hb2.mono hbr.size)
      clear hown hb2
      go_wp2_with (at_builtin; refine wpList_append_own _ rfl (.tmp 33) (.tmp 35) 24 rfl w0.heap.size 40 i0 (idV 0 0) 2 16 Tryz.underlying24 hi hz0 hz1 hz2 rfl (by decide) _ _ _ rfl ((hown2.alloc _).alloc _) ⟨w2.heap.size + 1, 0, none⟩ 1 1 [.int .u32 (P : Nat), .int .i64 L] rfl rfl (two_new _ _ _ _ _ (by simp)) (by simp [Value.oneCell']) (by unfold maxLen; omega) (by omega) (by have := hbr2.size; simp; omega) ?_; intro v' w3 hown' hgrow _; obtain ⟨g', cap', rfl⟩ := ownsRow_succ hown')
      have hbr3 : Below w0.heap.size w0 w3 := ((hbr2.alloc hbr2.size _).alloc (by have := hbr2.size; simp; omega) _).grown hgrow (by have := hbr2.size; simp; omega) (fun j e => own_base hown2 e)
      clear hgrow hown2
      go_wp2_with fail
      go_roundw
      case rel => exact ⟨k + 1, by omega, by go_num, by rw [HNX.out]; exact hown', hbr3⟩
      case measure => simp [intOf]; omega
    · have hge : (qs.length : Int) ≤ (k : Int) := by omega
      rw [List.take_of_length_le (by omega)] at hown
      obtain rfl : k = qs.length := by omega
      have HI : Hid (IdsAt wr u7 (qs.map fun p => (pmore 2166136261 p, (p.length : Int)))) := IdsAt.of_row (by rw [List.length_map]; exact hown)
      obtain ⟨⟨r0, r1, r2, r3⟩, g⟩ := HR.out wr hbr
      have g0 := g 0
      have g1 := g 1
      have g2 := g 2
      have g3 := g 3
      have hbw : Below w.heap.size w wr := hbw0.trans (hbr.mono hbw0.size)
      have hltr : w.heap.size < wr.heap.size := Nat.lt_of_lt_of_le hlt0 hbr.size
      have HIX := HI.out
      obtain ⟨pp, cc, hu, _⟩ := HIX
      rw [List.length_map] at hu
      subst hu
      have HROW : Hid (wr.ownsRow w0.heap.size 40 2 (.slice pp qs.length cc) qs.length (idCells (qs.map fun p => (pmore 2166136261 p, (p.length : Int))))) := hown
      clear g hown HI
      go_wp2_with fail
      refine (printOf_any s _ HSM.out).mono ?_
      rintro e w3 ⟨rfl, hw3⟩
      subst hw3
      obtain ⟨P, hP⟩ : ∃ P, pmore 2166136261 s.data.toList = P := ⟨_, rfl⟩
      have HPP : Hid (pmore 2166136261 s.data.toList = P) := hP
      rw [hP]
      clear hP
      go_wp2_with fail
      refine bodyPost_ret (v := .tuple #[rcpV nm s.size (P : Nat) (.slice pp qs.length cc), .int .i64 0]) (by simp [results, Tryz.results20, go_sem, r0, r1, r2, r3]) rfl ⟨.slice pp qs.length cc, by rw [HPP.out], ?_, (((hbw.setCell (p := ⟨w.heap.size, 0, none⟩) (Nat.le_refl _) _).setCell (p := ⟨w.heap.size, 1, none⟩) (Nat.le_refl _) _).setCell (p := ⟨w.heap.size, 2, none⟩) (Nat.le_refl _) _).setCell (p := ⟨w.heap.size, 3, none⟩) (Nat.le_refl _) _⟩
      refine (IdsIn.of_row (base := w0.heap.size) (e := 40) ?_).low (Nat.le_of_lt hlt0)
      rw [List.length_map]
      exact ownsRow_setCell_below (ownsRow_setCell_below (ownsRow_setCell_below (ownsRow_setCell_below HROW.out (a := ⟨w.heap.size, 0, none⟩) hlt0 _) (a := ⟨w.heap.size, 1, none⟩) hlt0 _) (a := ⟨w.heap.size, 2, none⟩) hlt0 _) (a := ⟨w.heap.size, 3, none⟩) hlt0 _
end Go.Proofs.YteefjbdejcpepaaGreatDoor
namespace Go.Proofs.YteefjbdejcpepaaGreatDoor
open Go.RowKit

theorem idCells_cells {W : World} {b o : Nat} {ids : List (Nat × Int)} (h : ∀ i (h : i < ids.length), W.cell? ⟨b, o + i * 2, none⟩ = some (.int .u32 (ids[i].1 : Nat)) ∧ W.cell? ⟨b, o + i * 2 + 1, none⟩ = some (.int .i64 ids[i].2)) :
    ∀ j u, (idCells ids)[j]? = some u → W.cell? ((⟨b, o, none⟩ : Addr).add j) = some u := by
  intro j u hj
  have hjl : j < (idCells ids).length := (List.getElem?_eq_some_iff.1 hj).1
  rw [idCells_length] at hjl
  have hi : j / 2 < ids.length := by omega
  have ha : (⟨b, o, none⟩ : Addr).add j = ⟨b, o + j, none⟩ := by unfold Addr.add; split <;> simp_all
  rw [ha]
  have e := idCells_at ids (j / 2) hi
  rcases Nat.mod_two_eq_zero_or_one j with h0 | h0
  · have hj2 : j / 2 * 2 = j := by omega
    rw [hj2] at e
    have h1 := (h (j / 2) hi).1
    rw [hj2] at h1
    rw [h1, ← hj, e.1]
  · have hj2 : j / 2 * 2 + 1 = j := by omega
    rw [hj2] at e
    have h1 := (h (j / 2) hi).2
    rw [Nat.add_assoc, hj2] at h1
    rw [h1, ← hj, e.2]
theorem idCells_one (ids : List (Nat × Int)) : ∀ u ∈ idCells ids, u.oneCell' = true := by
  induction ids with
  | nil => simp [idCells]
  | cons x r ih =>
    intro u hu
    simp only [idCells, List.mem_cons] at hu
    rcases hu with rfl | rfl | hu
    · rfl
    · rfl
    · exact ih u hu

/- A recipe in a box, and an empty one behind it. -/
structure OwnW (w W : World) (nm : ByteArray) (len p : Int) (v : Value) : Prop where
  below : Below w.heap.size w W
  size : w.heap.size + 1 < W.heap.size
  b0 : W.cell? ⟨w.heap.size, 0, none⟩ = some (.string nm)
  b1 : W.cell? ⟨w.heap.size, 1, none⟩ = some (.int .i64 len)
  b2 : W.cell? ⟨w.heap.size, 2, none⟩ = some (.int .u32 p)
  b3 : W.cell? ⟨w.heap.size, 3, none⟩ = some v
  r0 : W.cell? ⟨w.heap.size + 1, 0, none⟩ = some (.string ⟨#[]⟩)
  r1 : W.cell? ⟨w.heap.size + 1, 1, none⟩ = some (.int .i64 0)
  r2 : W.cell? ⟨w.heap.size + 1, 2, none⟩ = some (.int .u32 0)
  r3 : W.cell? ⟨w.heap.size + 1, 3, none⟩ = some (.slice none 0 0)
  g : ∀ i, W.frozen? ⟨w.heap.size, i, none⟩ = false
  f : ∀ i, W.frozen? ⟨w.heap.size + 1, i, none⟩ = false
theorem OwnW.of {w W : World} (nm : ByteArray) (len p : Int) (v : Value) (t : TypeId)
    (hb : Below ((w.alloc (.cells #[.string nm, .int .i64 len, .int .u32 p, v] t)).alloc (.cells #[.string ⟨#[]⟩, .int .i64 0, .int .u32 0, .slice none 0 0] t)).heap.size ((w.alloc (.cells #[.string nm, .int .i64 len, .int .u32 p, v] t)).alloc (.cells #[.string ⟨#[]⟩, .int .i64 0, .int .u32 0, .slice none 0 0] t)) W) : OwnW w W nm len p v := by
  have hs := hb.size
  simp only [World.size_alloc] at hs
  have c : ∀ i u, (#[.string nm, .int .i64 len, .int .u32 p, v] : Array Value)[i]? = some u → W.cell? ⟨w.heap.size, i, none⟩ = some u := fun i u h =>
    (hb.cell (p := ⟨w.heap.size, i, none⟩) (by simp; omega)).trans ((World.cell?_alloc_lt _ _ ⟨w.heap.size, i, none⟩ (by simp)).trans (new_cell w _ _ h rfl))
  have r : ∀ i u, (#[.string ⟨#[]⟩, .int .i64 0, .int .u32 0, .slice none 0 0] : Array Value)[i]? = some u → W.cell? ⟨w.heap.size + 1, i, none⟩ = some u := fun i u h =>
    (hb.cell (p := ⟨w.heap.size + 1, i, none⟩) (by simp)).trans (new_cell _ _ _ h (by simp))
  refine ⟨(((Below.refl _ w).alloc (Nat.le_refl _) _).alloc (by simp) _).trans (hb.mono (by simp; omega)), by omega, c 0 _ rfl, c 1 _ rfl, c 2 _ rfl, c 3 _ rfl, r 0 _ rfl, r 1 _ rfl, r 2 _ rfl, r 3 _ rfl, fun i => ?_, fun i => ?_⟩
  · rw [hb.frozen (p := ⟨w.heap.size, i, none⟩) (by simp; omega), frozen_alloc_lt' _ _ (by simp)]
    exact new_frozen w _ _ rfl
  · rw [hb.frozen (p := ⟨w.heap.size + 1, i, none⟩) (by simp)]
    exact new_frozen _ _ _ (by simp)

set_option maxRecDepth 100000 in
set_option maxHeartbeats 4000000 in
theorem ownRecipe_any (nm : ByteArray) (len : Int) (p : Nat) (v : Value) (ids : List (Nat × Int)) (w : World) (hv : IdsAt w v ids) (hlen : ids.length ≤ 50000) :
    Calls Tryz.prog 22 #[rcpV nm len (p : Nat) v] w fun e w' => ∃ v', e = .returned (rcpV nm len (p : Nat) v') ∧ IdsIn w.heap.size w' v' ids ∧ Below w.heap.size w w' := by
  obtain ⟨i0, hi, hz0, hz1, hz2⟩ := info_parts infoID
  obtain ⟨pa, c, rfl, hcell⟩ := hv
  have HL : Hid (ids.length ≤ 50000) := hlen
  clear hlen
  have hB0 : ∀ oo oo', Below w.heap.size w ((w.alloc oo).alloc oo') := fun oo oo' => ((Below.refl _ w).alloc (Nat.le_refl _) _).alloc (by simp) _
  cases pa with
  | none =>
    have h0 : ids.length = 0 := by
      rcases Nat.eq_zero_or_pos ids.length with h | h
      · exact h
      · obtain ⟨b, o, hp, _⟩ := hcell 0 h
        cases hp
    obtain rfl : ids = [] := List.eq_nil_of_length_eq_zero h0
    clear hcell h0
    go_enter Tryz.func22, Tryz.ntmps22
    go_wp2_with fail
    exact bodyPost_ret (v := rcpV nm len (p : Nat) (.slice none 0 0)) (by simp [results, Tryz.results22, go_sem]) rfl ⟨.slice none 0 0, rfl, IdsIn.nil _ _, hB0 _ _⟩
  | some ad =>
    by_cases hn : ids = []
    · subst hn
      clear hcell
      obtain ⟨b, o, sp⟩ := ad
      go_enter Tryz.func22, Tryz.ntmps22
      go_wp2_with fail
      exact bodyPost_ret (v := rcpV nm len (p : Nat) (.slice none 0 0)) (by simp [results, Tryz.results22, go_sem]) rfl ⟨.slice none 0 0, rfl, IdsIn.nil _ _, hB0 _ _⟩
    · have hn1 : 1 ≤ ids.length := by
        rcases Nat.eq_zero_or_pos ids.length with h | h
        · exact (hn (List.eq_nil_of_length_eq_zero h)).elim
        · exact h
      clear hn
      obtain ⟨b, o, hp, hbl, _⟩ := hcell 0 hn1
      cases hp
      have HC : Hid (∀ W', Below w.heap.size w W' → ∀ j u, (idCells ids)[j]? = some u → W'.cell? ((⟨b, o, none⟩ : Addr).add j) = some u) := fun W' hb => idCells_cells (fun i hi => by
        obtain ⟨b', o', hp, hl, h1, h2⟩ := hcell i hi
        cases hp
        exact ⟨(hb.cell (p := ⟨b, o + i * 2, none⟩) hl).trans h1, (hb.cell (p := ⟨b, o + i * 2 + 1, none⟩) hl).trans h2⟩)
      clear hcell hbl
      obtain ⟨m, hm⟩ : ∃ m, ids.length = m := ⟨_, rfl⟩
      have HM : Hid (ids.length = m) := hm
      have HNL : Hid ((idCells ids).length = m * 2) := by show _ = _; rw [idCells_length, hm]
      have HM5 : Hid (m ≤ 50000) := by show _ ≤ _; rw [← hm]; exact HL.out
      rw [hm] at hn1 ⊢
      clear hm HL
      go_enter Tryz.func22, Tryz.ntmps22
      go_wp2_with (at_builtin; refine wpList_append_own _ rfl (.tmp 4) (.tmp 6) 24 rfl (w.heap.size + 1 + 1) 40 i0 (idV 0 0) 2 16 Tryz.underlying24 hi hz0 hz1 hz2 rfl (by decide) (.slice none 0 0) 0 [] rfl (World.ownsRow_nil _ _ _ _) ⟨b, o, none⟩ m c (idCells ids) rfl HNL.out (HC.out _ (hB0 _ _)) (idCells_one ids) (by have := HM5.out; unfold maxLen; omega) (by have := HM5.out; omega) (by simp) ?_; intro v' w1 hown' hgrow _; rw [Nat.zero_add, List.nil_append] at hown'; have hO := OwnW.of nm len p _ _ (below_of_grown hgrow); obtain ⟨pp, cc, hu, _⟩ := IdsAt.of_row (ids := ids) (by rw [HM.out]; exact hown'); rw [HM.out] at hu; subst hu; clear hgrow; have b0 := hO.b0; have b1 := hO.b1; have b2 := hO.b2; have b3 := hO.b3; have r0 := hO.r0; have r1 := hO.r1; have r2 := hO.r2; have r3 := hO.r3; have g3 := hO.g 3; have f0 := hO.f 0; have f1 := hO.f 1; have f2 := hO.f 2; have f3 := hO.f 3)
      refine bodyPost_ret (v := rcpV nm len (p : Nat) (.slice pp m cc)) (by simp [results, Tryz.results22, go_sem, r0, r1, r2, r3]) rfl ⟨.slice pp m cc, rfl, ?_, ((((hO.below.setCell (p := ⟨w.heap.size, 3, none⟩) (Nat.le_refl _) _).setCell (p := ⟨w.heap.size + 1, 0, none⟩) (by simp) _).setCell (p := ⟨w.heap.size + 1, 1, none⟩) (by simp) _).setCell (p := ⟨w.heap.size + 1, 2, none⟩) (by simp) _).setCell (p := ⟨w.heap.size + 1, 3, none⟩) (by simp) _⟩
      refine (IdsIn.of_row (base := w.heap.size + 1 + 1) (e := 40) ?_).low (by omega)
      rw [HM.out]
      have h0 : w.heap.size < w.heap.size + 1 + 1 := by omega
      have h1 : w.heap.size + 1 < w.heap.size + 1 + 1 := by omega
      exact ownsRow_setCell_below (ownsRow_setCell_below (ownsRow_setCell_below (ownsRow_setCell_below (ownsRow_setCell_below hown' (a := ⟨w.heap.size, 3, none⟩) h0 _) (a := ⟨w.heap.size + 1, 0, none⟩) h1 _) (a := ⟨w.heap.size + 1, 1, none⟩) h1 _) (a := ⟨w.heap.size + 1, 2, none⟩) h1 _) (a := ⟨w.heap.size + 1, 3, none⟩) h1 _
end Go.Proofs.YteefjbdejcpepaaGreatDoor
namespace Go.Proofs.YteefjbdejcpepaaGreatDoor
open Go.RowKit

theorem IdsIn.same {lo : Nat} {W W' : World} {v : Value} {ids : List (Nat × Int)} (h : IdsIn lo W v ids) (hs : SameIn lo W.heap.size W W') (hz : W.heap.size ≤ W'.heap.size) : IdsIn lo W' v ids := by
  obtain ⟨p, c, hv, h⟩ := h
  refine ⟨p, c, hv, fun i hi => ?_⟩
  obtain ⟨b, o, hp, hl, hlt, h1, h2⟩ := h i hi
  have hc : ∀ j, W'.cell? ⟨b, j, none⟩ = W.cell? ⟨b, j, none⟩ := fun j => World.cell?_of_block (w := W) (hs b hl hlt)
  exact ⟨b, o, hp, hl, Nat.lt_of_lt_of_le hlt hz, (hc _).trans h1, (hc _).trans h2⟩
end Go.Proofs.YteefjbdejcpepaaGreatDoor
namespace Go.Proofs.YteefjbdejcpepaaGreatDoor
open Go.RowKit

/- The first piece that has another ID. -/
def firstOdd : Nat → List (List UInt8) → List (Nat × Int) → Option Nat
  | i, p :: l, x :: r => if idOfL p = x then firstOdd (i + 1) l r else some i
  | _, _, _ => none
def joinOf (nm : List UInt8) (len : Int) (p : Nat) (ids : List (Nat × Int)) (ls : List (List UInt8)) : List UInt8 × (Int × Int) :=
  if recFault nm len ids ≠ (0, -1) then ([], recFault nm len ids) else if ls.length ≠ ids.length then ([], (3, -1)) else
    match firstOdd 0 ls ids with
    | some i => ([], (9, (i : Int)))
    | none => if pmore 2166136261 ls.flatten = p then (ls.flatten, (0, -1)) else ([], (9, -1))
theorem recFault_code (nm : List UInt8) (len : Int) (ids : List (Nat × Int)) : recFault nm len ids = (0, -1) ∨ 0 < (recFault nm len ids).1 := by
  unfold recFault
  split
  · exact .inr (by decide)
  · split
    · exact .inr (by decide)
    · split
      · exact .inr (by decide)
      · split
        · exact .inr (by show (0 : Int) < 3; decide)
        · split
          · exact .inl rfl
          · exact .inr (by decide)
theorem recFault_zero {nm : List UInt8} {len : Int} {ids : List (Nat × Int)} (h : recFault nm len ids = (0, -1)) : isName nm = true ∧ (0 ≤ len ∧ len ≤ 4000) ∧ ids.length ≤ 250 ∧ firstBad 0 ids = none ∧ lenSum ids = len := by
  unfold recFault at h
  split at h
  · cases h
  · rename_i h1
    split at h
    · cases h
    · rename_i h2
      split at h
      · cases h
      · rename_i h3
        split at h
        · cases h
        · rename_i h4
          split at h
          · rename_i h5
            exact ⟨by simpa using h1, by omega, by omega, h4, h5⟩
          · cases h
theorem firstOdd_at : ∀ (ls : List (List UInt8)) (ids : List (Nat × Int)) (i k : Nat) (h : k < ls.length) (h' : k < ids.length), (∀ j (hj : j < ls.length) (hj' : j < ids.length), j < k → idOfL ls[j] = ids[j]) → idOfL ls[k] ≠ ids[k] → firstOdd i ls ids = some (i + k)
  | [], _, _, _, h, _, _, _ => by simp at h
  | _ :: _, [], _, _, _, h', _, _ => by simp at h'
  | p :: l, x :: r, i, 0, _, _, _, hb => by
    have hb' : idOfL p ≠ x := hb
    rw [firstOdd, if_neg hb']
    rfl
  | p :: l, x :: r, i, k + 1, h, h', ha, hb => by
    have h0 : idOfL p = x := ha 0 (by simp) (by simp) (by omega)
    rw [firstOdd, if_pos h0, firstOdd_at l r (i + 1) k (by simpa using h) (by simpa using h') (fun j hj hj' hk => by have := ha (j + 1) (by simpa using hj) (by simpa using hj') (by omega); simpa using this) (by simpa using hb)]
    congr 1
    omega
theorem firstOdd_none : ∀ (ls : List (List UInt8)) (ids : List (Nat × Int)) (i : Nat), (∀ j (hj : j < ls.length) (hj' : j < ids.length), idOfL ls[j] = ids[j]) → firstOdd i ls ids = none
  | [], _, _, _ => by simp [firstOdd]
  | _ :: _, [], _, _ => by simp [firstOdd]
  | p :: l, x :: r, i, ha => by
    have h0 : idOfL p = x := ha 0 (by simp) (by simp)
    rw [firstOdd, if_pos h0, firstOdd_none l r (i + 1) (fun j hj hj' => by have := ha (j + 1) (by simpa using hj) (by simpa using hj'); simpa using this)]

/- The recipe's box, the result, and a fault in a block of its own. -/
structure JoinW (w W : World) (nm : ByteArray) (len p : Int) (v : Value) (B : Nat) (c a : Int) : Prop where
  fault : FaultW w W nm len p v
  lo : w.heap.size + 1 < B
  hi : B < W.heap.size
  q0 : W.cell? ⟨B, 0, none⟩ = some (.int .i64 c)
  q1 : W.cell? ⟨B, 1, none⟩ = some (.int .i64 a)
theorem JoinW.next {w W W' : World} {nm : ByteArray} {len p : Int} {v : Value} {B : Nat} {c a : Int} (h : JoinW w W nm len p v B c a) (hb : Below W.heap.size W W') : JoinW w W' nm len p v B c a :=
  ⟨h.fault.next hb, h.lo, Nat.lt_of_lt_of_le h.hi hb.size, (hb.cell (p := ⟨B, 0, none⟩) h.hi).trans h.q0, (hb.cell (p := ⟨B, 1, none⟩) h.hi).trans h.q1⟩
theorem JoinW.new {w W : World} {nm : ByteArray} {len p : Int} {v : Value} (h : FaultW w W nm len p v) (c a : Int) (t : TypeId) : JoinW w (W.alloc (.cells #[.int .i64 c, .int .i64 a] t)) nm len p v W.heap.size c a :=
  ⟨h.next ((Below.refl _ W).alloc (Nat.le_refl _) _), h.size, by simp, new_cell W _ _ rfl rfl, new_cell W _ _ rfl rfl⟩

set_option maxRecDepth 100000 in
set_option maxHeartbeats 4000000 in
theorem joinOf_any (nm : ByteArray) (hnm : nm.size ≤ maxLen) (len : Int) (p : Nat) (v vl : Value) (ids : List (Nat × Int)) (ls : List (List UInt8)) (w : World) (hv : IdsAt w v ids) (hlen : ids.length ≤ maxLen) (hl : CellsAt w vl (ls.map txtV)) (hll : ls.length ≤ maxLen)
    (hsz : ∀ i (h : i < ls.length), ls[i].length ≤ 100) :
    Calls Tryz.prog 27 #[rcpV nm len (p : Nat) v, vl] w fun e w' => e = .returned (.tuple #[.string ⟨(joinOf nm.data.toList len p ids ls).1.toArray⟩, faultV (joinOf nm.data.toList len p ids ls).2.1 (joinOf nm.data.toList len p ids ls).2.2]) ∧ Below w.heap.size w w' := by
  have HV : Hid (IdsAt w v ids) := hv
  obtain ⟨pa, ca, rfl, hcell⟩ := hv
  obtain ⟨pb, cb, rfl, hcl⟩ := hl
  simp only [List.length_map, List.getElem_map] at hcl ⊢
  have HN : Hid (nm.size ≤ maxLen) := hnm
  have HLEN : Hid (ids.length ≤ maxLen) := hlen
  have HSZ : Hid (∀ i (h : i < ls.length), ls[i].length ≤ 100) := hsz
  have hl2 : (ids.length : Int) ≤ 9223372036854775807 := by unfold maxLen at hlen; omega
  have hl3 : (ls.length : Int) ≤ 9223372036854775807 := by unfold maxLen at hll; omega
  have HCI : Hid (∀ W', Below w.heap.size w W' → ∀ i (h : i < ids.length), ∃ b o, pa = some ⟨b, o, none⟩ ∧ W'.cell? ⟨b, o + i * 2, none⟩ = some (.int .u32 (ids[i].1 : Nat)) ∧ W'.cell? ⟨b, o + i * 2 + 1, none⟩ = some (.int .i64 ids[i].2)) := fun W' hb i hi => by
    obtain ⟨b, o, hp, hlt, h1, h2⟩ := hcell i hi
    exact ⟨b, o, hp, (hb.cell (p := ⟨b, o + i * 2, none⟩) hlt).trans h1, (hb.cell (p := ⟨b, o + i * 2 + 1, none⟩) hlt).trans h2⟩
  have HCL : Hid (∀ W', Below w.heap.size w W' → ∀ i (h : i < ls.length), ∃ b o, pb = some ⟨b, o, none⟩ ∧ W'.cell? ⟨b, o + i, none⟩ = some (txtV ls[i])) := fun W' hb i hi => by
    obtain ⟨b, o, hp, hlt, h1⟩ := hcl i hi
    exact ⟨b, o, hp, (hb.cell (p := ⟨b, o + i, none⟩) hlt.1).trans h1⟩
  clear hcell hcl hnm hlen hll hsz
  go_enter Tryz.func27, Tryz.ntmps27
  go_wp2_with fail
  have hF := FaultW.new w nm len p (.slice pa ids.length ca) 26 46
  obtain ⟨W, hW⟩ : ∃ W, (w.alloc (.cells #[.string nm, .int .i64 len, .int .u32 (p : Nat), .slice pa ids.length ca] 26)).alloc (.cells #[.int .i64 0, .int .i64 0] 46) = W := ⟨_, rfl⟩
  rw [hW] at hF ⊢
  clear hW
  refine (recipeFault_any nm HN.out len (p : Nat) _ ids _ (HV.out.below hF.below) HLEN.out).mono ?_
  rintro e w2 ⟨rfl, hb2⟩
  have hF2 := hF.next hb2
  obtain ⟨⟨fc, fa⟩, hf⟩ : ∃ f, recFault nm.data.toList len ids = f := ⟨_, rfl⟩
  have HF : Hid (recFault nm.data.toList len ids = (fc, fa)) := hf
  rw [hf]
  have hcode := recFault_code nm.data.toList len ids
  rw [hf] at hcode
  have hJ := JoinW.new hF2 fc fa 46
  clear hf hF hF2 hb2
  by_cases hc0 : 0 < fc
  · have HR : Hid (joinOf nm.data.toList len p ids ls = ([], (fc, fa))) := by
      show _ = _
      unfold joinOf
      rw [if_pos (by rw [HF.out]; intro e; cases e; omega), HF.out]
    clear hcode
    go_wp2_with fail
    obtain ⟨W3, hW3⟩ : ∃ W3, w2.alloc (.cells #[.int .i64 fc, .int .i64 fa] 46) = W3 := ⟨_, rfl⟩
    rw [hW3] at hJ ⊢
    clear hW3
    have q0 := hJ.q0
    have q1 := hJ.q1
    have k0 := hJ.fault.r0
    have k1 := hJ.fault.r1
    have f0 := hJ.fault.f0
    have f1 := hJ.fault.f1
    go_region
    go_wp2_with fail
    exact bodyPost_ret (v := .tuple #[.string ⟨#[]⟩, faultV fc fa]) (by simp [results, Tryz.results27, go_sem, k0, k1]) rfl ⟨by rw [HR.out], ((hJ.fault.below.setCell (p := ⟨w.heap.size + 1, 0, none⟩) (by simp) _).setCell (p := ⟨w.heap.size + 1, 1, none⟩) (by simp) _).drew⟩
  · have hz : (fc, fa) = ((0 : Int), (-1 : Int)) := by
      rcases hcode with h | h
      · exact h
      · exact absurd h hc0
    obtain ⟨rfl, rfl⟩ : fc = 0 ∧ fa = -1 := by simpa using hz
    clear hz hcode hc0
    obtain ⟨z1, z2, z3, z4, z5⟩ := recFault_zero HF.out
    have H250 : Hid (ids.length ≤ 250) := z3
    clear z1 z2 z3 z4 z5
    by_cases hll : ls.length = ids.length
    · have HLL : Hid (ls.length = ids.length) := hll
      have hq : ((ls.length : Int) == (ids.length : Int)) = true := by rw [beq_iff_eq]; omega
      have hqn : ((ls.length : Int) != (ids.length : Int)) = false := by rw [bne, hq]; rfl
      clear hll
      have b3 := hJ.fault.b3
      go_wp2_with fail
      obtain ⟨W3, hW3⟩ : ∃ W3, w2.alloc (.cells #[.int .i64 0, .int .i64 (-1)] 46) = W3 := ⟨_, rfl⟩
      rw [hW3] at hJ ⊢
      clear hW3 b3
      obtain ⟨B, hB⟩ : ∃ B, w2.heap.size = B := ⟨_, rfl⟩
      rw [hB] at hJ ⊢
      clear hB
      go_loopw [7, 8] (fun v i wr => ∃ (k : Nat) (ab : ByteArray), k ≤ ls.length ∧ i = .int .i64 k ∧ v = .string ab ∧ ab.data.toList = (ls.take k).flatten ∧ ab.size ≤ 100 * k ∧ (∀ j (hj : j < ls.length) (hj' : j < ids.length), j < k → idOfL ls[j] = ids[j]) ∧ JoinW w wr nm len p (.slice pa ids.length ca) B 0 (-1)) (fun _ i _ => ls.length - (intOf i).toNat)
      case atStart => exact ⟨0, ⟨#[]⟩, Nat.zero_le _, rfl, rfl, rfl, Nat.le_refl _, fun j _ _ h => by omega, hJ⟩
      case round =>
        obtain ⟨k, ab, hk, rfl, rfl, hab, habs, hsame, hJr⟩ := hrel
        have HAB : Hid (ab.data.toList = (ls.take k).flatten) := hab
        have HAS : Hid (ab.size ≤ 100 * k) := habs
        have HSM : Hid (∀ j (hj : j < ls.length) (hj' : j < ids.length), j < k → idOfL ls[j] = ids[j]) := hsame
        clear hab habs hsame hJ
        have b3 := hJr.fault.b3
        by_cases hlt : k < ls.length
        · have hlt' : (k : Int) < (ls.length : Int) := by omega
          have hki : k < ids.length := by have := HLL.out; omega
          have hki' : (k : Int) < (ids.length : Int) := by omega
          obtain ⟨bi, oi, rfl, hi0, hi1⟩ := HCI.out wr hJr.fault.below k hki
          obtain ⟨bl, ol, rfl, hl0⟩ := HCL.out wr hJr.fault.below k hlt
          have HCI2 : Hid (∀ W', Below w.heap.size w W' → W'.cell? ⟨bi, oi + k * 2, none⟩ = some (.int .u32 (ids[k].1 : Nat)) ∧ W'.cell? ⟨bi, oi + k * 2 + 1, none⟩ = some (.int .i64 ids[k].2)) := fun W' hb => by
            obtain ⟨b, o, hp, h1, h2⟩ := HCI.out W' hb k hki
            cases hp
            exact ⟨h1, h2⟩
          have HCL2 : Hid (∀ W', Below w.heap.size w W' → W'.cell? ⟨bl, ol + k, none⟩ = some (txtV ls[k])) := fun W' hb => by
            obtain ⟨b, o, hp, h1⟩ := HCL.out W' hb k hlt
            cases hp
            exact h1
          have HLS : Hid (ls[k].length ≤ 100) := HSZ.out k hlt
          have HID : Hid (idOfL ls[k] = (pmore 2166136261 ls[k], (ls[k].length : Int))) := rfl
          have HTK : Hid ((ls.take (k + 1)).flatten = (ls.take k).flatten ++ ls[k]) := by
            show _ = _
            rw [List.take_succ_eq_append_getElem hlt, List.flatten_append]
            simp
          have HST : Hid (idOfL ls[k] = ids[k] → ∀ j (hj : j < ls.length) (hj' : j < ids.length), j < k + 1 → idOfL ls[j] = ids[j]) := fun e j hj hj' h => by
            by_cases ej : j = k
            · subst ej; exact e
            · exact HSM.out j hj hj' (by omega)
          have HOD : Hid (idOfL ls[k] ≠ ids[k] → firstOdd 0 ls ids = some k) := fun e => by
            have := firstOdd_at ls ids 0 k hlt hki (fun j hj hj' h => HSM.out j hj hj' h) e
            rwa [Nat.zero_add] at this
          obtain ⟨q, hq⟩ : ∃ q : ByteArray, (⟨ls[k].toArray⟩ : ByteArray) = q := ⟨_, rfl⟩
          have hqd : q.data.toList = ls[k] := by rw [← hq]
          have hqs : (ls[k].length : Int) = (q.size : Int) := by rw [← hq]; rfl
          have hqn : q.size ≤ 100 := by have := HLS.out; omega
          rw [txtV, hq] at hl0 HCL2
          rw [← hqd] at HTK
          rw [hqs, ← hqd] at HID
          obtain ⟨P, hP⟩ : ∃ P, pmore 2166136261 q.data.toList = P := ⟨_, rfl⟩
          have HPP : Hid (pmore 2166136261 q.data.toList = P) := hP
          obtain ⟨L, hL⟩ : ∃ L : Int, (q.size : Int) = L := ⟨_, rfl⟩
          have HQL : Hid ((q.size : Int) = L) := hL
          rw [hP, hL] at HID
          obtain ⟨⟨n, l⟩, hy⟩ : ∃ y, ids[k] = y := ⟨_, rfl⟩
          obtain ⟨z, hz⟩ : ∃ z, idOfL ls[k] = z := ⟨_, rfl⟩
          rw [hy] at hi0 hi1 HCI2 HST HOD
          rw [hqd, hz] at HID
          rw [hz] at HST HOD
          have HQM : Hid (q.size ≤ maxLen) := by show _ ≤ _; unfold maxLen; omega
          have HQN : Hid (q.size ≤ 100) := hqn
          clear hqs hq hqd hP hL hy hz HLS hqn
          by_cases hid : P = n ∧ L = l
          · obtain ⟨rfl, rfl⟩ := hid
            go_wp2_with fail
            go_region_held3 (fun w' => w'.cell? ⟨bl, ol + k, none⟩ = some (.string q) ∧ w'.cell? ⟨w.heap.size, 3, none⟩ = some (.slice (some ⟨bi, oi, none⟩) ids.length ca) ∧ w'.cell? ⟨bi, oi + k * 2, none⟩ = some (.int .u32 (P : Nat)) ∧ w'.cell? ⟨bi, oi + k * 2 + 1, none⟩ = some (.int .i64 L)) (go_keep) (first
              | (go_at_call 66; refine (idOf_any q _ HQM.out).mono ?_; rintro e w4 ⟨rfl, hb4⟩; rw [HPP.out, HQL.out]; have hJ4 : JoinW w w4 nm len p (.slice (some ⟨bi, oi, none⟩) ids.length ca) B 0 (-1) := hJr.next ((Below.refl _ wr).drew.trans (hb4.mono (Nat.le_refl _))); have y3 := hJ4.fault.b3; obtain ⟨y0, y1⟩ := HCI2.out w4 hJ4.fault.below; have y2 := HCL2.out w4 hJ4.fault.below))
            have has := HAS.out
            have hqn := HQN.out
            have h250 := H250.out
            obtain ⟨S5, hS5, hT5, hZ5⟩ := add_eq ab q (by omega)
            have HT5 : Hid (S5.data.toList = (ls.take (k + 1)).flatten) := by show _ = _; rw [hT5, HAB.out, HTK.out]
            have HZ5 : Hid (S5.size ≤ 100 * (k + 1)) := by show _ ≤ _; rw [hZ5]; omega
            clear has hqn hT5 hZ5 h250
            go_wp2_with fail
            go_roundw
            case rel => exact ⟨k + 1, S5, by omega, by go_num, rfl, HT5.out, HZ5.out, HST.out HID.out, hJ4⟩
            case measure => simp [intOf]; omega
          · by_cases hPn : P = n
            · subst hPn
              have hLl : L ≠ l := fun e => hid ⟨rfl, e⟩
              have HR : Hid (joinOf nm.data.toList len p ids ls = ([], (9, (k : Int)))) := by
                show _ = _
                unfold joinOf
                rw [if_neg (by rw [HF.out]; simp), if_neg (by rw [HLL.out]; simp), HOD.out (by rw [HID.out]; intro e; cases e; exact hid ⟨rfl, rfl⟩)]
              have hb : (L == l) = false := by rw [beq_eq_false_iff_ne]; exact hLl
              clear hid
              go_wp2_with fail
              go_region_held3 (fun w' => w'.cell? ⟨bl, ol + k, none⟩ = some (.string q) ∧ w'.cell? ⟨w.heap.size, 3, none⟩ = some (.slice (some ⟨bi, oi, none⟩) ids.length ca) ∧ w'.cell? ⟨bi, oi + k * 2, none⟩ = some (.int .u32 (P : Nat)) ∧ w'.cell? ⟨bi, oi + k * 2 + 1, none⟩ = some (.int .i64 l)) (go_keep) (first
                | (go_at_call 66; refine (idOf_any q _ HQM.out).mono ?_; rintro e w4 ⟨rfl, hb4⟩; rw [HPP.out, HQL.out]; have hJ4 : JoinW w w4 nm len p (.slice (some ⟨bi, oi, none⟩) ids.length ca) B 0 (-1) := hJr.next ((Below.refl _ wr).drew.trans (hb4.mono (Nat.le_refl _))); have y3 := hJ4.fault.b3; obtain ⟨y0, y1⟩ := HCI2.out w4 hJ4.fault.below; have y2 := HCL2.out w4 hJ4.fault.below))
              have k0 := hJ4.fault.r0
              have k1 := hJ4.fault.r1
              have f0 := hJ4.fault.f0
              have f1 := hJ4.fault.f1
              go_wp2_with fail
              exact bodyPost_ret (v := .tuple #[.string ⟨#[]⟩, faultV 9 (k : Int)]) (by simp [results, Tryz.results27, go_sem, k0, k1]) rfl ⟨by rw [HR.out], (hJ4.fault.below.setCell (p := ⟨w.heap.size + 1, 0, none⟩) (by simp) _).setCell (p := ⟨w.heap.size + 1, 1, none⟩) (by simp) _⟩
            · have hPn' : (P : Int) ≠ (n : Int) := by omega
              have HR : Hid (joinOf nm.data.toList len p ids ls = ([], (9, (k : Int)))) := by
                show _ = _
                unfold joinOf
                rw [if_neg (by rw [HF.out]; simp), if_neg (by rw [HLL.out]; simp), HOD.out (by rw [HID.out]; intro e; cases e; exact hid ⟨rfl, rfl⟩)]
              have hb : ((P : Int) == (n : Int)) = false := by rw [beq_eq_false_iff_ne]; exact hPn'
              clear hid
              go_wp2_with fail
              go_region_held3 (fun w' => w'.cell? ⟨bl, ol + k, none⟩ = some (.string q) ∧ w'.cell? ⟨w.heap.size, 3, none⟩ = some (.slice (some ⟨bi, oi, none⟩) ids.length ca) ∧ w'.cell? ⟨bi, oi + k * 2, none⟩ = some (.int .u32 (n : Nat)) ∧ w'.cell? ⟨bi, oi + k * 2 + 1, none⟩ = some (.int .i64 l)) (go_keep) (first
                | (go_at_call 66; refine (idOf_any q _ HQM.out).mono ?_; rintro e w4 ⟨rfl, hb4⟩; rw [HPP.out, HQL.out]; have hJ4 : JoinW w w4 nm len p (.slice (some ⟨bi, oi, none⟩) ids.length ca) B 0 (-1) := hJr.next ((Below.refl _ wr).drew.trans (hb4.mono (Nat.le_refl _))); have y3 := hJ4.fault.b3; obtain ⟨y0, y1⟩ := HCI2.out w4 hJ4.fault.below; have y2 := HCL2.out w4 hJ4.fault.below))
              have k0 := hJ4.fault.r0
              have k1 := hJ4.fault.r1
              have f0 := hJ4.fault.f0
              have f1 := hJ4.fault.f1
              go_wp2_with fail
              exact bodyPost_ret (v := .tuple #[.string ⟨#[]⟩, faultV 9 (k : Int)]) (by simp [results, Tryz.results27, go_sem, k0, k1]) rfl ⟨by rw [HR.out], (hJ4.fault.below.setCell (p := ⟨w.heap.size + 1, 0, none⟩) (by simp) _).setCell (p := ⟨w.heap.size + 1, 1, none⟩) (by simp) _⟩
        · have hge : (ls.length : Int) ≤ (k : Int) := by omega
          have hkn : k = ls.length := by omega
          have hfl : ab.data.toList = ls.flatten := by
            have := HAB.out
            rwa [List.take_of_length_le (by omega)] at this
          have HNO : Hid (firstOdd 0 ls ids = none) := firstOdd_none ls ids 0 (fun j hj hj' => HSM.out j hj hj' (by omega))
          have HJN : Hid (joinOf nm.data.toList len p ids ls = if pmore 2166136261 ab.data.toList = p then (ab.data.toList, (0, -1)) else ([], (9, -1))) := by
            show _ = _
            unfold joinOf
            rw [if_neg (by rw [HF.out]; simp), if_neg (by rw [HLL.out]; simp), HNO.out, hfl]
          have HAM : Hid (ab.size ≤ maxLen) := by
            show _ ≤ _
            have h1 := HAS.out
            have h2 := H250.out
            have h3 := HLL.out
            unfold maxLen
            omega
          have b2 := hJr.fault.b2
          obtain ⟨P, hP⟩ : ∃ P, pmore 2166136261 ab.data.toList = P := ⟨_, rfl⟩
          have HPP : Hid (pmore 2166136261 ab.data.toList = P) := hP
          rw [hP] at HJN
          clear hP hfl hkn HNO
          by_cases hPp : P = p
          · subst hPp
            have HR : Hid (joinOf nm.data.toList len P ids ls = (ab.data.toList, (0, -1))) := by show _ = _; rw [HJN.out, if_pos rfl]
            clear HJN
            go_wp2_with fail
            go_region_held3 (fun w' => w'.cell? ⟨w.heap.size, 2, none⟩ = some (.int .u32 (P : Nat))) (go_keep) (first
              | (go_at_call 67; refine (printOf_any ab _ HAM.out).mono ?_; rintro e w4 ⟨rfl, hw4⟩; subst hw4; rw [HPP.out]))
            have q0 := hJr.q0
            have q1 := hJr.q1
            have k0 := hJr.fault.r0
            have k1 := hJr.fault.r1
            have f0 := hJr.fault.f0
            have f1 := hJr.fault.f1
            go_wp2_with fail
            go_region
            go_wp2_with fail
            have HAE : Hid (ab = ⟨ab.data.toList.toArray⟩) := bytes_eq rfl
            exact bodyPost_ret (v := .tuple #[.string ab, faultV 0 (-1)]) (by simp [results, Tryz.results27, go_sem, k0, k1]) rfl ⟨by rw [HR.out, ← HAE.out], ((hJr.fault.below.setCell (p := ⟨w.heap.size + 1, 0, none⟩) (by simp) _).setCell (p := ⟨w.heap.size + 1, 1, none⟩) (by simp) _).drew.drew⟩
          · have HR : Hid (joinOf nm.data.toList len p ids ls = ([], (9, -1))) := by show _ = _; rw [HJN.out, if_neg hPp]
            have hb : ((P : Int) == (p : Int)) = false := by rw [beq_eq_false_iff_ne]; omega
            have hbn : ((P : Int) != (p : Int)) = true := by rw [bne, hb]; rfl
            clear HJN hPp
            go_wp2_with fail
            go_region_held3 (fun w' => w'.cell? ⟨w.heap.size, 2, none⟩ = some (.int .u32 (p : Nat))) (go_keep) (first
              | (go_at_call 67; refine (printOf_any ab _ HAM.out).mono ?_; rintro e w4 ⟨rfl, hw4⟩; subst hw4; rw [HPP.out]))
            go_wp2_with fail
            refine (bare_any 9 _).mono ?_
            rintro e w4 ⟨rfl, hb4⟩
            have hJ4 : JoinW w w4 nm len p (.slice pa ids.length ca) B 0 (-1) := hJr.next ((Below.refl _ wr).drew.trans (hb4.mono (Nat.le_refl _)))
            have k0 := hJ4.fault.r0
            have k1 := hJ4.fault.r1
            have f0 := hJ4.fault.f0
            have f1 := hJ4.fault.f1
            go_wp2_with fail
            exact bodyPost_ret (v := .tuple #[.string ⟨#[]⟩, faultV 9 (-1)]) (by simp [results, Tryz.results27, go_sem, k0, k1]) rfl ⟨by rw [HR.out], (hJ4.fault.below.setCell (p := ⟨w.heap.size + 1, 0, none⟩) (by simp) _).setCell (p := ⟨w.heap.size + 1, 1, none⟩) (by simp) _⟩
    · have HR : Hid (joinOf nm.data.toList len p ids ls = ([], (3, -1))) := by
        show _ = _
        unfold joinOf
        rw [if_neg (by rw [HF.out]; simp), if_pos hll]
      have hq : ((ls.length : Int) == (ids.length : Int)) = false := by rw [beq_eq_false_iff_ne]; omega
      have hqn : ((ls.length : Int) != (ids.length : Int)) = true := by rw [bne, hq]; rfl
      have b3 := hJ.fault.b3
      clear hll
      go_wp2_with fail
      refine (bare_any 3 _).mono ?_
      rintro e w4 ⟨rfl, hb4⟩
      have hJ4 := hJ.next hb4
      have k0 := hJ4.fault.r0
      have k1 := hJ4.fault.r1
      have f0 := hJ4.fault.f0
      have f1 := hJ4.fault.f1
      go_wp2_with fail
      exact bodyPost_ret (v := .tuple #[.string ⟨#[]⟩, faultV 3 (-1)]) (by simp [results, Tryz.results27, go_sem, k0, k1]) rfl ⟨by rw [HR.out], (hJ4.fault.below.setCell (p := ⟨w.heap.size + 1, 0, none⟩) (by simp) _).setCell (p := ⟨w.heap.size + 1, 1, none⟩) (by simp) _⟩
end Go.Proofs.YteefjbdejcpepaaGreatDoor
namespace Go.Proofs.YteefjbdejcpepaaGreatDoor
open Go.RowKit

def readIds : List (List UInt8) → Option (List (Nat × Int))
  | [] => some []
  | t :: r => match idRead t, readIds r with
    | some x, some ids => some ((x.1, (x.2 : Int)) :: ids)
    | _, _ => none
abbrev RcpD := List UInt8 × Int × Nat × List (Nat × Int)
def rcpRead (t : List UInt8) : RcpD × (Int × Int) :=
  match cutBy 32 t with
  | nm :: ln :: pr :: r => match numOf ln 6, unhex8 pr, readIds r with
    | some n, some p, some ids => if recFault nm n ids = (0, -1) then ((nm, (n : Int), p, ids), (0, -1)) else (([], 0, 0, []), recFault nm n ids)
    | _, _, _ => (([], 0, 0, []), (1, -1))
  | _ => (([], 0, 0, []), (1, -1))
theorem readIds_snoc : ∀ (l : List (List UInt8)) (t : List UInt8) (ids : List (Nat × Int)) (x : Nat × Nat), readIds l = some ids → idRead t = some x → readIds (l ++ [t]) = some (ids ++ [(x.1, (x.2 : Int))])
  | [], t, ids, x, h, hx => by
    cases h
    simp [readIds, hx]
  | u :: r, t, ids, x, h, hx => by
    rw [readIds] at h
    rw [List.cons_append, readIds]
    split at h
    · rename_i y js hy hj
      cases h
      rw [hy, readIds_snoc r t js x hj hx]
      rfl
    · cases h
theorem readIds_none : ∀ (l : List (List UInt8)) (k : Nat) (h : k < l.length), idRead l[k] = none → readIds l = none
  | u :: r, 0, _, hx => by
    have hx' : idRead u = none := hx
    rw [readIds, hx']
  | u :: r, k + 1, h, hx => by
    rw [readIds, readIds_none r k (by simpa using h) (by simpa using hx)]
    cases idRead u <;> rfl
theorem cutBy_len (c : UInt8) : ∀ (l : List UInt8), (cutBy c l).length ≤ l.length + 1 ∧ ∀ p ∈ cutBy c l, p.length ≤ l.length
  | [] => by simp [cutBy]
  | x :: l => by
    have ih := cutBy_len c l
    rw [cutBy]
    split
    · refine ⟨by simp; exact ih.1, fun p hp => ?_⟩
      rcases List.mem_cons.1 hp with rfl | hp
      · simp
      · exact Nat.le_trans (ih.2 p hp) (by simp)
    · split
      · rename_i p r he
        rw [he] at ih
        refine ⟨by simp at ih ⊢; omega, fun q hq => ?_⟩
        rcases List.mem_cons.1 hq with rfl | hq
        · have := ih.2 p (by simp)
          simp
          omega
        · exact Nat.le_trans (ih.2 q (by simp [hq])) (by simp)
      · exact ⟨by simp, fun q hq => by simp at hq; subst hq; simp⟩
theorem rcpRead_short (t : List UInt8) (h : (cutBy 32 t).length < 3) : rcpRead t = (([], 0, 0, []), (1, -1)) := by
  unfold rcpRead
  split
  · rename_i e
    rw [e] at h
    simp at h
    omega
  · rfl

theorem rcpRead_parts {t nm ln pr : List UInt8} {rs : List (List UInt8)} (h : cutBy 32 t = nm :: ln :: pr :: rs) : rcpRead t = match numOf ln 6, unhex8 pr, readIds rs with
    | some n, some p, some ids => if recFault nm n ids = (0, -1) then ((nm, (n : Int), p, ids), (0, -1)) else (([], 0, 0, []), recFault nm n ids)
    | _, _, _ => (([], 0, 0, []), (1, -1)) := by
  unfold rcpRead
  rw [h]
theorem rcpRead_num {t nm ln pr : List UInt8} {rs : List (List UInt8)} (h : cutBy 32 t = nm :: ln :: pr :: rs) (hn : numOf ln 6 = none) : rcpRead t = (([], 0, 0, []), (1, -1)) := by
  rw [rcpRead_parts h, hn]
theorem rcpRead_hex {t nm ln pr : List UInt8} {rs : List (List UInt8)} (h : cutBy 32 t = nm :: ln :: pr :: rs) {n : Nat} (hn : numOf ln 6 = some n) (hu : unhex8 pr = none) : rcpRead t = (([], 0, 0, []), (1, -1)) := by
  rw [rcpRead_parts h, hn, hu]
theorem rcpRead_ids {t nm ln pr : List UInt8} {rs : List (List UInt8)} (h : cutBy 32 t = nm :: ln :: pr :: rs) {n p : Nat} (hn : numOf ln 6 = some n) (hu : unhex8 pr = some p) (hi : readIds rs = none) : rcpRead t = (([], 0, 0, []), (1, -1)) := by
  rw [rcpRead_parts h, hn, hu, hi]
theorem rcpRead_all {t nm ln pr : List UInt8} {rs : List (List UInt8)} (h : cutBy 32 t = nm :: ln :: pr :: rs) {n p : Nat} (hn : numOf ln 6 = some n) (hu : unhex8 pr = some p) {ids : List (Nat × Int)} (hi : readIds rs = some ids) : rcpRead t = if recFault nm n ids = (0, -1) then ((nm, (n : Int), p, ids), (0, -1)) else (([], 0, 0, []), recFault nm n ids) := by
  rw [rcpRead_parts h, hn, hu, hi]
theorem unhex8_any (p : List UInt8) (w : World) : Calls Tryz.prog 76 #[strV p] w fun e w' => e = .returned (hexRes (unhex8 p)) ∧ w' = w := by
  by_cases h : p.length = 8
  · have := refUnhex_any ⟨p.toArray⟩ (by rw [str_size]; exact h) w
    rw [str_list] at this
    rw [unhex8, if_pos h]
    exact this
  · have := refUnhex_no ⟨p.toArray⟩ (by rw [str_size]; exact h) w
    rw [unhex8, if_neg h]
    exact this
/- The two results, in blocks of their own, still empty. -/
structure ReadW (w W : World) : Prop where
  below : Below w.heap.size w W
  size : w.heap.size + 1 < W.heap.size
  r0 : W.cell? ⟨w.heap.size, 0, none⟩ = some (.string ⟨#[]⟩)
  r1 : W.cell? ⟨w.heap.size, 1, none⟩ = some (.int .i64 0)
  r2 : W.cell? ⟨w.heap.size, 2, none⟩ = some (.int .u32 0)
  r3 : W.cell? ⟨w.heap.size, 3, none⟩ = some (.slice none 0 0)
  k0 : W.cell? ⟨w.heap.size + 1, 0, none⟩ = some (.int .i64 0)
  k1 : W.cell? ⟨w.heap.size + 1, 1, none⟩ = some (.int .i64 0)
  g : ∀ i, W.frozen? ⟨w.heap.size, i, none⟩ = false
  f : ∀ i, W.frozen? ⟨w.heap.size + 1, i, none⟩ = false
theorem ReadW.new (w : World) (t t' : TypeId) : ReadW w ((w.alloc (.cells #[.string ⟨#[]⟩, .int .i64 0, .int .u32 0, .slice none 0 0] t)).alloc (.cells #[.int .i64 0, .int .i64 0] t')) where
  below := ((Below.refl _ w).alloc (Nat.le_refl _) _).alloc (by simp) _
  size := by simp
  r0 := by rw [World.cell?_alloc_lt _ _ ⟨w.heap.size, 0, none⟩ (by simp)]; simp
  r1 := by rw [World.cell?_alloc_lt _ _ ⟨w.heap.size, 1, none⟩ (by simp)]; simp
  r2 := by rw [World.cell?_alloc_lt _ _ ⟨w.heap.size, 2, none⟩ (by simp)]; simp
  r3 := by rw [World.cell?_alloc_lt _ _ ⟨w.heap.size, 3, none⟩ (by simp)]; simp
  k0 := by simp
  k1 := by simp
  g := fun i => by rw [frozen_alloc_lt' _ _ (by simp)]; exact new_frozen w _ _ rfl
  f := fun i => new_frozen _ _ _ (by simp)
theorem ReadW.next {w W W' : World} (h : ReadW w W) (hb : Below W.heap.size W W') : ReadW w W' := by
  have hs := h.size
  have hs' := hb.size
  exact ⟨h.below.trans (hb.mono h.below.size), by omega, (hb.cell (p := ⟨_, 0, none⟩) (by simp; omega)).trans h.r0, (hb.cell (p := ⟨_, 1, none⟩) (by simp; omega)).trans h.r1, (hb.cell (p := ⟨_, 2, none⟩) (by simp; omega)).trans h.r2, (hb.cell (p := ⟨_, 3, none⟩) (by simp; omega)).trans h.r3,
    (hb.cell (p := ⟨_, 0, none⟩) (by simp; omega)).trans h.k0, (hb.cell (p := ⟨_, 1, none⟩) (by simp; omega)).trans h.k1, fun i => (hb.frozen (p := ⟨_, i, none⟩) (by simp; omega)).trans (h.g i), fun i => (hb.frozen (p := ⟨_, i, none⟩) (by simp; omega)).trans (h.f i)⟩

/- A refusal: both results stored. -/
def readPost (s : ByteArray) (w : World) (e : Ending) (w' : World) : Prop := ∃ v, e = .returned (.tuple #[rcpV ⟨(rcpRead s.data.toList).1.1.toArray⟩ (rcpRead s.data.toList).1.2.1 ((rcpRead s.data.toList).1.2.2.1 : Nat) v, faultV (rcpRead s.data.toList).2.1 (rcpRead s.data.toList).2.2]) ∧ IdsIn w.heap.size w' v (rcpRead s.data.toList).1.2.2.2 ∧ Below w.heap.size w w'
abbrev stored (W : World) (h : Nat) (c a : Int) : World := (((((W.setCell ⟨h, 0, none⟩ (.string ⟨#[]⟩)).setCell ⟨h, 1, none⟩ (.int .i64 0)).setCell ⟨h, 2, none⟩ (.int .u32 0)).setCell ⟨h, 3, none⟩ (.slice none 0 0)).setCell ⟨h + 1, 0, none⟩ (.int .i64 c)).setCell ⟨h + 1, 1, none⟩ (.int .i64 a)
theorem readBad {s : ByteArray} {w W : World} {c a : Int} (h : ReadW w W) (hr : rcpRead s.data.toList = (([], 0, 0, []), (c, a))) : readPost s w (.returned (.tuple #[rcpV ⟨#[]⟩ 0 0 (.slice none 0 0), faultV c a])) (stored W w.heap.size c a) := by
  refine ⟨.slice none 0 0, by rw [hr]; rfl, by rw [hr]; exact IdsIn.nil _ _, ?_⟩
  exact (((((h.below.setCell (p := ⟨w.heap.size, 0, none⟩) (Nat.le_refl _) _).setCell (p := ⟨w.heap.size, 1, none⟩) (Nat.le_refl _) _).setCell (p := ⟨w.heap.size, 2, none⟩) (Nat.le_refl _) _).setCell (p := ⟨w.heap.size, 3, none⟩) (Nat.le_refl _) _).setCell (p := ⟨w.heap.size + 1, 0, none⟩) (by simp) _).setCell (p := ⟨w.heap.size + 1, 1, none⟩) (by simp) _

theorem readPost.drew {s : ByteArray} {w w' : World} {e : Ending} (h : readPost s w e w') : readPost s w e w'.drew := by
  obtain ⟨v, h1, h2, h3⟩ := h
  exact ⟨v, h1, h2.below (Below.refl _ _).drew, h3.drew⟩
abbrev stored4 (W : World) (h : Nat) (a b c d : Value) (x y : Int) : World := (((((W.setCell ⟨h, 0, none⟩ a).setCell ⟨h, 1, none⟩ b).setCell ⟨h, 2, none⟩ c).setCell ⟨h, 3, none⟩ d).setCell ⟨h + 1, 0, none⟩ (.int .i64 x)).setCell ⟨h + 1, 1, none⟩ (.int .i64 y)
theorem readGood {s : ByteArray} {w W : World} {nm : ByteArray} {n : Int} {p : Nat} {ids : List (Nat × Int)} {v : Value} {base : Nat} {e : TypeId} (h : ReadW w W) (hb : w.heap.size + 1 < base) (ho : W.ownsRow base e 2 v ids.length (idCells ids)) (hr : rcpRead s.data.toList = ((nm.data.toList, n, p, ids), (0, -1))) :
    readPost s w (.returned (.tuple #[rcpV nm n (p : Nat) v, faultV 0 (-1)])) (stored4 W w.heap.size (.string nm) (.int .i64 n) (.int .u32 (p : Nat)) v 0 (-1)) := by
  refine ⟨v, ?_, ?_, ?_⟩
  · rw [hr, show (⟨nm.data.toList.toArray⟩ : ByteArray) = nm from (bytes_eq rfl).symm]
  · rw [hr]
    refine (IdsIn.of_row (base := base) (e := e) ?_).low (by omega)
    have h0 : w.heap.size < base := by omega
    exact ownsRow_setCell_below (ownsRow_setCell_below (ownsRow_setCell_below (ownsRow_setCell_below (ownsRow_setCell_below (ownsRow_setCell_below ho (a := ⟨w.heap.size, 0, none⟩) h0 _) (a := ⟨w.heap.size, 1, none⟩) h0 _) (a := ⟨w.heap.size, 2, none⟩) h0 _) (a := ⟨w.heap.size, 3, none⟩) h0 _) (a := ⟨w.heap.size + 1, 0, none⟩) hb _) (a := ⟨w.heap.size + 1, 1, none⟩) hb _
  · exact (((((h.below.setCell (p := ⟨w.heap.size, 0, none⟩) (Nat.le_refl _) _).setCell (p := ⟨w.heap.size, 1, none⟩) (Nat.le_refl _) _).setCell (p := ⟨w.heap.size, 2, none⟩) (Nat.le_refl _) _).setCell (p := ⟨w.heap.size, 3, none⟩) (Nat.le_refl _) _).setCell (p := ⟨w.heap.size + 1, 0, none⟩) (by simp) _).setCell (p := ⟨w.heap.size + 1, 1, none⟩) (by simp) _

set_option maxRecDepth 100000 in
set_option maxHeartbeats 4000000 in
theorem readRecipe_any (s : ByteArray) (hs : s.size ≤ 40000) (w : World) :
    Calls Tryz.prog 26 #[.string s] w fun e w' => readPost s w e w' := by
  obtain ⟨i0, hi, hz0, hz1, hz2⟩ := info_parts infoID
  have hs' : ¬ (40000 : Int) < (s.size : Int) := by omega
  have hcl := cutBy_len 32 s.data.toList
  rw [Array.length_toList] at hcl
  have HC := cut_any s 32 (hs := by omega)
  obtain ⟨ws, hws⟩ : ∃ ws, cutBy 32 s.data.toList = ws := ⟨_, rfl⟩
  have HW : Hid (cutBy 32 s.data.toList = ws) := hws
  rw [hws] at hcl
  have HCUT : Hid (∀ w : World, Calls Tryz.prog 74 #[.string s, .int .u8 32] w fun e w' => ∃ v, e = .returned v ∧ w'.ownsRow w.heap.size 9 1 v ws.length (ws.map strV) ∧ Below w.heap.size w w') := fun w => by
    have := HC w
    rw [hws] at this
    exact this
  have HWL : Hid (ws.length ≤ 40001 ∧ ∀ p ∈ ws, p.length ≤ 40000) := ⟨Nat.le_trans hcl.1 (by show s.size + 1 ≤ _; omega), fun p hp => Nat.le_trans (hcl.2 p hp) hs⟩
  clear HC hcl hws hs
  go_enter Tryz.func26, Tryz.ntmps26
  go_wp2_with fail
  have hR := ReadW.new w 26 46
  obtain ⟨W, hW⟩ : ∃ W, (w.alloc (.cells #[.string ⟨#[]⟩, .int .i64 0, .int .u32 0, .slice none 0 0] 26)).alloc (.cells #[.int .i64 0, .int .i64 0] 46) = W := ⟨_, rfl⟩
  rw [hW] at hR ⊢
  clear hW
  refine (HCUT.out _).mono ?_
  clear HCUT
  rintro e w1 ⟨v1, rfl, ho1, hb1⟩
  have hR1 := hR.next hb1
  clear hR hb1
  by_cases h3 : ws.length < 3
  · have HR : Hid (rcpRead s.data.toList = (([], 0, 0, []), (1, -1))) := rcpRead_short _ (by rw [HW.out]; exact h3)
    have h3' : (ws.length : Int) < 3 := by omega
    obtain ⟨p1, c1, rfl, _⟩ := CellsAt.of_row ho1
    simp only [List.length_map]
    clear ho1 h3
    go_wp2_with fail
    refine (bare_any 1 _).mono ?_
    rintro e w9 ⟨rfl, hb9⟩
    have hJ9 := hR1.next hb9
    have s0 := hJ9.r0
    have s1 := hJ9.r1
    have s2 := hJ9.r2
    have s3 := hJ9.r3
    have t0 := hJ9.k0
    have t1 := hJ9.k1
    have g0 := hJ9.g 0
    have g1 := hJ9.g 1
    have g2 := hJ9.g 2
    have g3 := hJ9.g 3
    have f0 := hJ9.f 0
    have f1 := hJ9.f 1
    go_wp2_with fail
    exact bodyPost_ret (v := .tuple #[rcpV ⟨#[]⟩ 0 0 (.slice none 0 0), faultV 1 (-1)]) (by simp [results, Tryz.results26, go_sem, s0, s1, s2, s3, t0, t1]) rfl (readBad hJ9 HR.out)
  · obtain ⟨nm, ln, pr, rs, hws⟩ : ∃ nm ln pr rs, ws = nm :: ln :: pr :: rs := by
      match ws, h3 with
      | nm :: ln :: pr :: rs, _ => exact ⟨nm, ln, pr, rs, rfl⟩
      | [], h => exact absurd (by simp) h
      | [_], h => exact absurd (by simp) h
      | [_, _], h => exact absurd (by simp) h
    subst hws
    obtain ⟨g, cap, rfl, hcap, hcm, hgl, hcell⟩ := row_open ho1 (by simp)
    have HC0 : Hid (∀ W', Below w1.heap.size w1 W' → W'.cell? ⟨g, 0, none⟩ = some (strV nm) ∧ W'.cell? ⟨g, 1, none⟩ = some (strV ln) ∧ W'.cell? ⟨g, 2, none⟩ = some (strV pr)) := fun W' hb =>
      ⟨(hb.cell (p := ⟨g, 0, none⟩) hgl).trans (hcell 0 (by simp)), (hb.cell (p := ⟨g, 1, none⟩) hgl).trans (hcell 1 (by simp)), (hb.cell (p := ⟨g, 2, none⟩) hgl).trans (hcell 2 (by simp))⟩
    have HCR : Hid (∀ W', Below w1.heap.size w1 W' → ∀ i (h : i < rs.length), W'.cell? ⟨g, i + 3, none⟩ = some (strV rs[i])) := fun W' hb i hi => by
      have := hcell (i + 3) (by simp; omega)
      exact (hb.cell (p := ⟨g, i + 3, none⟩) hgl).trans (this.trans (by simp))
    have hlen : ((nm :: ln :: pr :: rs).length : Int) = (rs.length : Int) + 3 := by simp; omega
    have h3' : ¬ ((rs.length : Int) + 3 < 3) := by omega
    have HRL : Hid (rs.length ≤ 40000 ∧ nm.length ≤ 40000 ∧ ln.length ≤ 40000 ∧ pr.length ≤ 40000 ∧ ∀ p ∈ rs, p.length ≤ 40000) := ⟨by have := HWL.out.1; simp at this; omega, HWL.out.2 nm (by simp), HWL.out.2 ln (by simp), HWL.out.2 pr (by simp), fun p hp => HWL.out.2 p (by simp [hp])⟩
    clear ho1 hcell h3 HWL hcm hcap
    obtain ⟨d0, d1, d2⟩ := HC0.out w1 (Below.refl _ _)
    obtain ⟨LN, hLN⟩ : ∃ LN : ByteArray, (⟨ln.toArray⟩ : ByteArray) = LN := ⟨_, rfl⟩
    have HNL : Hid (LN.data.toList = ln) := by show _ = _; rw [← hLN]
    have HLM : Hid (LN.size ≤ maxLen) := by show _ ≤ _; rw [← hLN, str_size]; have := HRL.out.2.2.1; unfold maxLen; omega
    rw [strV, hLN] at d1
    clear hLN
    obtain ⟨N, hN⟩ : ∃ N, (nm :: ln :: pr :: rs).length = N := ⟨_, rfl⟩
    rw [hN] at hlen ⊢
    clear hN
    rw [← hlen] at h3'
    have hN3 : (3 : Int) ≤ (N : Int) := by omega
    go_wp2_with fail
    refine (numberOf_any LN HLM.out 6 (by decide) _).mono ?_
    rintro e w2 ⟨rfl, hw2⟩
    subst hw2
    rw [HNL.out]
    cases hnum : numOf ln 6 with
    | none =>
      have HR : Hid (rcpRead s.data.toList = (([], 0, 0, []), (1, -1))) := rcpRead_num HW.out hnum
      clear hnum
      have hm1 : numRes none = -1 := rfl
      rw [hm1]
      clear hm1
      go_wp2_with fail
      refine (unhex8_any pr _).mono ?_
      rintro e w3 ⟨rfl, hw3⟩
      subst hw3
      cases unhex8 pr with
      | none =>
        unfold hexRes
        go_wp2_with fail
        refine (bare_any 1 _).mono ?_
        rintro e w9 ⟨rfl, hb9⟩
        have hJ9 := hR1.next hb9
        have s0 := hJ9.r0
        have s1 := hJ9.r1
        have s2 := hJ9.r2
        have s3 := hJ9.r3
        have t0 := hJ9.k0
        have t1 := hJ9.k1
        have g0 := hJ9.g 0
        have g1 := hJ9.g 1
        have g2 := hJ9.g 2
        have g3 := hJ9.g 3
        have f0 := hJ9.f 0
        have f1 := hJ9.f 1
        go_wp2_with fail
        exact bodyPost_ret (v := .tuple #[rcpV ⟨#[]⟩ 0 0 (.slice none 0 0), faultV 1 (-1)]) (by simp [results, Tryz.results26, go_sem, s0, s1, s2, s3, t0, t1]) rfl (readBad hJ9 HR.out)
      | some p =>
        unfold hexRes
        go_wp2_with fail
        refine (bare_any 1 _).mono ?_
        rintro e w9 ⟨rfl, hb9⟩
        have hJ9 := hR1.next hb9
        have s0 := hJ9.r0
        have s1 := hJ9.r1
        have s2 := hJ9.r2
        have s3 := hJ9.r3
        have t0 := hJ9.k0
        have t1 := hJ9.k1
        have g0 := hJ9.g 0
        have g1 := hJ9.g 1
        have g2 := hJ9.g 2
        have g3 := hJ9.g 3
        have f0 := hJ9.f 0
        have f1 := hJ9.f 1
        go_wp2_with fail
        exact bodyPost_ret (v := .tuple #[rcpV ⟨#[]⟩ 0 0 (.slice none 0 0), faultV 1 (-1)]) (by simp [results, Tryz.results26, go_sem, s0, s1, s2, s3, t0, t1]) rfl (readBad hJ9 HR.out)
    | some n =>
      have HNUM : Hid (numOf ln 6 = some n) := hnum
      have HN6 : Hid (n < 1000000) := by
        have h1 := hnum
        unfold numOf at h1
        split at h1
        · cases h1
        · rename_i hh
          have h2 := undec_lt ln 0 n h1
          have h3 : ln.length ≤ 6 := by omega
          have h4 : 10 ^ ln.length ≤ 10 ^ 6 := Nat.pow_le_pow_right (by decide) h3
          show n < 1000000
          have h5 : (10 : Nat) ^ 6 = 1000000 := by decide
          rw [Nat.zero_add, Nat.one_mul] at h2
          exact Nat.lt_of_lt_of_le h2 (by rw [← h5]; exact h4)
      clear hnum
      have hm1 : numRes (some n) = (n : Int) := rfl
      rw [hm1]
      have hn0 : ¬ (n : Int) < 0 := by omega
      clear hm1
      go_wp2_with fail
      refine (unhex8_any pr _).mono ?_
      rintro e w3 ⟨rfl, hw3⟩
      subst hw3
      cases hun : unhex8 pr with
      | none =>
        have HR : Hid (rcpRead s.data.toList = (([], 0, 0, []), (1, -1))) := rcpRead_hex HW.out HNUM.out hun
        clear hun
        unfold hexRes
        go_wp2_with fail
        refine (bare_any 1 _).mono ?_
        rintro e w9 ⟨rfl, hb9⟩
        have hJ9 := hR1.next hb9
        have s0 := hJ9.r0
        have s1 := hJ9.r1
        have s2 := hJ9.r2
        have s3 := hJ9.r3
        have t0 := hJ9.k0
        have t1 := hJ9.k1
        have g0 := hJ9.g 0
        have g1 := hJ9.g 1
        have g2 := hJ9.g 2
        have g3 := hJ9.g 3
        have f0 := hJ9.f 0
        have f1 := hJ9.f 1
        go_wp2_with fail
        exact bodyPost_ret (v := .tuple #[rcpV ⟨#[]⟩ 0 0 (.slice none 0 0), faultV 1 (-1)]) (by simp [results, Tryz.results26, go_sem, s0, s1, s2, s3, t0, t1]) rfl (readBad hJ9 HR.out)
      | some p =>
        have HUN : Hid (unhex8 pr = some p) := hun
        clear hun
        unfold hexRes
        go_wp2_with fail
        go_loopw [8, 9] (fun v i wr => ∃ (k : Nat) (ids : List (Nat × Int)), k ≤ rs.length ∧ i = .int .i64 ((k : Int) + 3) ∧ readIds (rs.take k) = some ids ∧ ids.length = k ∧ wr.ownsRow w3.heap.size 40 2 v k (idCells ids) ∧ Below w3.heap.size w3 wr) (fun _ i _ => rs.length + 3 - (intOf i).toNat)
        case atStart => exact ⟨0, [], Nat.zero_le _, rfl, rfl, rfl, World.ownsRow_nil _ _ _ _, Below.refl _ _⟩
        case round =>
          obtain ⟨k, ids, hk, rfl, hids, hil, hown, hbr⟩ := hrel
          have HIDS : Hid (readIds (rs.take k) = some ids) := hids
          have HIL : Hid (ids.length = k) := hil
          clear hids hil d0 d1 d2
          have hRr := hR1.next hbr
          by_cases hlt : k < rs.length
          · have hlt' : (k : Int) + 3 < (rs.length : Int) + 3 := by omega
            have hk3 : (0 : Int) ≤ (k : Int) + 3 := by omega
            have hk4 : ((k : Int) + 3).toNat = k + 3 := by omega
            have hrl : (rs.length : Int) ≤ 40000 := by have := HRL.out.1; omega
            have hc := HCR.out wr hbr k hlt
            have HTK : Hid (rs.take (k + 1) = rs.take k ++ [rs[k]]) := List.take_succ_eq_append_getElem hlt
            have HNO : Hid (idRead rs[k] = none → readIds rs = none) := fun e => readIds_none rs k hlt e
            obtain ⟨Q, hQ⟩ : ∃ Q : ByteArray, (⟨rs[k].toArray⟩ : ByteArray) = Q := ⟨_, rfl⟩
            have HQD : Hid (Q.data.toList = rs[k]) := by show _ = _; rw [← hQ]
            have HQS : Hid (Q.size ≤ 50000) := by
              show _ ≤ _
              rw [← hQ, str_size]
              have := HRL.out.2.2.2.2 rs[k] (List.getElem_mem hlt)
              omega
            rw [strV, hQ] at hc
            obtain ⟨t, ht⟩ : ∃ t, rs[k] = t := ⟨_, rfl⟩
            rw [ht] at HTK HNO HQD
            clear hQ ht
            go_wp2_with fail
            refine (readID_any Q HQS.out _).mono ?_
            rintro e w4 ⟨rfl, hb4⟩
            rw [HQD.out, refRead_eq]
            cases hid : idRead t with
            | none =>
              have HR : Hid (rcpRead s.data.toList = (([], 0, 0, []), (1, -1))) := rcpRead_ids HW.out HNUM.out HUN.out (HNO.out hid)
              have hR4 := hRr.next hb4
              clear hid HNO
              rw [refRes_none]
              have hR5 := hR4.next ((Below.refl _ w4).alloc (Nat.le_refl _) (.cells #[.int .u32 0, .int .i64 0] 40))
              go_wp2_with fail
              refine (bare_any 1 _).mono ?_
              rintro e w9 ⟨rfl, hb9⟩
              have hJ9 := hR5.next hb9
              have s0 := hJ9.r0
              have s1 := hJ9.r1
              have s2 := hJ9.r2
              have s3 := hJ9.r3
              have t0 := hJ9.k0
              have t1 := hJ9.k1
              have g0 := hJ9.g 0
              have g1 := hJ9.g 1
              have g2 := hJ9.g 2
              have g3 := hJ9.g 3
              have f0 := hJ9.f 0
              have f1 := hJ9.f 1
              go_wp2_with fail
              exact bodyPost_ret (v := .tuple #[rcpV ⟨#[]⟩ 0 0 (.slice none 0 0), faultV 1 (-1)]) (by simp [results, Tryz.results26, go_sem, s0, s1, s2, s3, t0, t1]) rfl (readBad hJ9 HR.out)
            | some x =>
              obtain ⟨xn, xl⟩ := x
              have HSN : Hid (readIds (rs.take (k + 1)) = some (ids ++ [(xn, (xl : Int))])) := by show _ = _; rw [HTK.out]; exact readIds_snoc _ _ _ _ HIDS.out hid
              have hm : refRes (some (xn, xl)) = .tuple #[idV xn xl, .int .i64 0] := rfl
              rw [hm]
              have hown4 := row_below hown hb4
              have hbr4 : Below w3.heap.size w3 w4 := hbr.trans (hb4.mono hbr.size)
              clear hid HNO hm hown hb4 hbr hRr
              go_wp2_with (at_builtin; refine wpList_append_own _ rfl (.tmp 63) (.tmp 65) 24 rfl w3.heap.size 40 i0 (idV 0 0) 2 16 Tryz.underlying24 hi hz0 hz1 hz2 rfl (by decide) _ _ _ rfl ((hown4.alloc _).alloc _) ⟨w4.heap.size + 1, 0, none⟩ 1 1 [.int .u32 (xn : Nat), .int .i64 (xl : Nat)] rfl rfl (two_new _ _ _ _ _ (by simp)) (by simp [Value.oneCell']) (by unfold maxLen; omega) (by omega) (by have := hbr4.size; simp; omega) ?_; intro v' w5 hown' hgrow _; obtain ⟨g', cap', rfl⟩ := ownsRow_succ hown')
              have hbr5 : Below w3.heap.size w3 w5 := ((hbr4.alloc hbr4.size _).alloc (by have := hbr4.size; simp; omega) _).grown hgrow (by have := hbr4.size; simp; omega) (fun j e => own_base hown4 e)
              clear hgrow hown4
              go_wp2_with fail
              go_roundw
              case rel => exact ⟨k + 1, ids ++ [(xn, (xl : Int))], by omega, by go_num, HSN.out, by simp [HIL.out], by rw [idCells_append]; exact hown', hbr5⟩
              case measure => simp [intOf]; omega
          · have hge : (rs.length : Int) + 3 ≤ (k : Int) + 3 := by omega
            have hall : readIds rs = some ids := by
              have := HIDS.out
              rwa [List.take_of_length_le (by omega)] at this
            have HALL : Hid (rcpRead s.data.toList = if recFault nm n ids = (0, -1) then ((nm, (n : Int), p, ids), (0, -1)) else (([], 0, 0, []), recFault nm n ids)) := rcpRead_all HW.out HNUM.out HUN.out hall
            have hlenI : ids.length ≤ maxLen := by
              have h1 := HIL.out
              have h2 := HRL.out.1
              unfold maxLen
              omega
            have HLI : Hid (ids.length ≤ maxLen) := hlenI
            have hk : k = ids.length := HIL.out.symm
            subst hk
            have HROW : Hid (wr.ownsRow w3.heap.size 40 2 u8 ids.length (idCells ids)) := hown
            obtain ⟨pp, cc, hu, _⟩ := IdsAt.of_row hown
            subst hu
            obtain ⟨d0, _, _⟩ := HC0.out wr hbr
            obtain ⟨NM, hNM⟩ : ∃ NM : ByteArray, (⟨nm.toArray⟩ : ByteArray) = NM := ⟨_, rfl⟩
            have HNM : Hid (NM.data.toList = nm) := by show _ = _; rw [← hNM]
            have HNS : Hid (NM.size ≤ maxLen) := by show _ ≤ _; rw [← hNM, str_size]; have := HRL.out.2.1; unfold maxLen; omega
            rw [strV, hNM] at d0
            have hB1 : Below wr.heap.size wr (wr.alloc (.cells #[.string NM, .int .i64 (n : Nat), .int .u32 (p : Nat), .slice pp ids.length cc] 26)) := (Below.refl _ wr).alloc (Nat.le_refl _) _
            have HI1 : Hid (IdsAt (wr.alloc (.cells #[.string NM, .int .i64 (n : Nat), .int .u32 (p : Nat), .slice pp ids.length cc] 26)) (.slice pp ids.length cc) ids) := (IdsAt.of_row HROW.out).below hB1
            have HQ : Hid (∀ W', Below (wr.alloc (.cells #[.string NM, .int .i64 (n : Nat), .int .u32 (p : Nat), .slice pp ids.length cc] 26)).heap.size (wr.alloc (.cells #[.string NM, .int .i64 (n : Nat), .int .u32 (p : Nat), .slice pp ids.length cc] 26)) W' → ReadW w W' ∧ W'.ownsRow w3.heap.size 40 2 (.slice pp ids.length cc) ids.length (idCells ids) ∧ W'.cell? ⟨wr.heap.size, 0, none⟩ = some (.string NM) ∧ W'.cell? ⟨wr.heap.size, 1, none⟩ = some (.int .i64 (n : Nat)) ∧ W'.cell? ⟨wr.heap.size, 2, none⟩ = some (.int .u32 (p : Nat)) ∧ W'.cell? ⟨wr.heap.size, 3, none⟩ = some (.slice pp ids.length cc)) := fun W' hb =>
              ⟨(hRr.next hB1).next hb, row_below (row_below HROW.out hB1) hb, (hb.cell (p := ⟨wr.heap.size, 0, none⟩) (by simp)).trans (new_cell wr _ _ rfl rfl), (hb.cell (p := ⟨wr.heap.size, 1, none⟩) (by simp)).trans (new_cell wr _ _ rfl rfl), (hb.cell (p := ⟨wr.heap.size, 2, none⟩) (by simp)).trans (new_cell wr _ _ rfl rfl), (hb.cell (p := ⟨wr.heap.size, 3, none⟩) (by simp)).trans (new_cell wr _ _ rfl rfl)⟩
            have HBS : Hid (w.heap.size + 1 < w3.heap.size) := hR1.size
            clear hown hall hlenI hNM hB1 hRr HIDS
            go_wp2_with fail
            refine (recipeFault_any NM HNS.out (n : Nat) (p : Nat) _ ids _ HI1.out HLI.out).mono ?_
            rintro e w6 ⟨rfl, hb6⟩
            rw [HNM.out]
            obtain ⟨⟨fc, fa⟩, hf⟩ : ∃ f, recFault nm n ids = f := ⟨_, rfl⟩
            rw [hf] at HALL ⊢
            have hcode := recFault_code nm n ids
            rw [hf] at hcode
            clear hf
            have hBf : Below w6.heap.size w6 (w6.alloc (.cells #[.int .i64 fc, .int .i64 fa] 46)) := (Below.refl _ w6).alloc (Nat.le_refl _) _
            obtain ⟨hRf, hof, x0, x1, x2, x3⟩ := HQ.out (w6.alloc (.cells #[.int .i64 fc, .int .i64 fa] 46)) (hb6.trans (hBf.mono hb6.size))
            have y0 := new_cell w6 #[.int .i64 fc, .int .i64 fa] 46 (i := 0) rfl rfl
            have y1 := new_cell w6 #[.int .i64 fc, .int .i64 fa] 46 (i := 1) rfl rfl
            have hs6 : w.heap.size + 1 < w6.heap.size := (HQ.out w6 hb6).1.size
            have hne1 : ¬ w.heap.size = w6.heap.size := by omega
            have hne2 : ¬ w6.heap.size = w.heap.size := by omega
            have hne3 : ¬ w.heap.size + 1 = w6.heap.size := by omega
            have hne4 : ¬ w6.heap.size = w.heap.size + 1 := by omega
            clear HQ hBf hb6 HI1 HROW hs6
            by_cases hc0 : 0 < fc
            · have HR : Hid (rcpRead s.data.toList = (([], 0, 0, []), (fc, fa))) := by
                show _ = _
                rw [HALL.out, if_neg (by intro e; cases e; omega)]
              clear hcode HALL
              go_wp2_with fail
              obtain ⟨Wf, hWf⟩ : ∃ Wf, w6.alloc (.cells #[.int .i64 fc, .int .i64 fa] 46) = Wf := ⟨_, rfl⟩
              rw [hWf] at hRf hof x0 x1 x2 x3 y0 y1 ⊢
              clear hWf x0 x1 x2 x3
              have s0 := hRf.r0
              have s1 := hRf.r1
              have s2 := hRf.r2
              have s3 := hRf.r3
              have t0 := hRf.k0
              have t1 := hRf.k1
              have g0 := hRf.g 0
              have g1 := hRf.g 1
              have g2 := hRf.g 2
              have g3 := hRf.g 3
              have f0 := hRf.f 0
              have f1 := hRf.f 1
              go_region
              all_goals go_wp2_with fail
              all_goals exact bodyPost_ret (v := .tuple #[rcpV ⟨#[]⟩ 0 0 (.slice none 0 0), faultV fc fa]) (by simp [results, Tryz.results26, go_sem, s0, s1, s2, s3, t0, t1]) rfl (readBad hRf HR.out).drew
            · have hz : (fc, fa) = ((0 : Int), (-1 : Int)) := by
                rcases hcode with h | h
                · exact h
                · exact absurd h hc0
              obtain ⟨rfl, rfl⟩ : fc = 0 ∧ fa = -1 := by simpa using hz
              have HR : Hid (rcpRead s.data.toList = ((NM.data.toList, (n : Int), p, ids), (0, -1))) := by
                show _ = _
                rw [HALL.out, if_pos rfl, HNM.out]
              clear hcode HALL hz hc0
              go_wp2_with fail
              obtain ⟨Wf, hWf⟩ : ∃ Wf, w6.alloc (.cells #[.int .i64 0, .int .i64 (-1)] 46) = Wf := ⟨_, rfl⟩
              rw [hWf] at hRf hof x0 x1 x2 x3 y0 y1 ⊢
              clear hWf
              have s0 := hRf.r0
              have s1 := hRf.r1
              have s2 := hRf.r2
              have s3 := hRf.r3
              have t0 := hRf.k0
              have t1 := hRf.k1
              have g0 := hRf.g 0
              have g1 := hRf.g 1
              have g2 := hRf.g 2
              have g3 := hRf.g 3
              have f0 := hRf.f 0
              have f1 := hRf.f 1
              go_region
              all_goals go_wp2_with fail
              all_goals exact bodyPost_ret (v := .tuple #[rcpV NM (n : Nat) (p : Nat) (.slice pp ids.length cc), faultV 0 (-1)]) (by simp [results, Tryz.results26, go_sem, s0, s1, s2, s3, t0, t1]) rfl (readGood hRf HBS.out hof HR.out).drew
end Go.Proofs.YteefjbdejcpepaaGreatDoor
namespace Go.Proofs.YteefjbdejcpepaaGreatDoor

theorem pieces_many : ∀ (l : List UInt8), l ≠ [] → 16 * ((pieces l).length - 1) + 1 ≤ l.length := by
  refine pieces_rec (fun h => (h rfl).elim) ?_
  intro l hl ih _
  have hp := first_pos l hl
  have hle := first_le l
  rw [pieces_ne l hl, List.length_cons, Nat.add_sub_cancel]
  by_cases hd : l.drop (first l) = []
  · rw [hd, pieces_nil]
    have := List.length_pos_iff.2 hl
    simp
    omega
  · have h16 := first_ge16 l (drop_ne_nil hd)
    have hlt := drop_ne_nil hd
    have := ih hd
    rw [List.length_drop] at this
    have hn : 1 ≤ (pieces (l.drop (first l))).length := by
      rcases Nat.eq_zero_or_pos (pieces (l.drop (first l))).length with h | h
      · exact (hd ((pieces_eq_nil _).1 (List.eq_nil_of_length_eq_zero h))).elim
      · exact h
    omega
theorem pieces_250 (l : List UInt8) (h : l.length ≤ 4000) : (pieces l).length ≤ 250 := by
  by_cases e : l = []
  · subst e; decide
  · have := pieces_many l e
    omega
theorem idsOf_length (l : List UInt8) : (idsOf l).length = (pieces l).length := List.length_map _
theorem idsOf_at (l : List UInt8) (i : Nat) (h : i < (idsOf l).length) : (idsOf l)[i] = idOfL ((pieces l)[i]'(by rw [← idsOf_length]; exact h)) := by
  simp only [idsOf, List.getElem_map]
  rfl
theorem lenSum_pieces : ∀ (ps : List (List UInt8)), lenSum (ps.map fun p => (pmore 2166136261 p, (p.length : Int))) = (ps.flatten.length : Int)
  | [] => rfl
  | p :: r => by
    have ih := lenSum_pieces r
    simp only [lenSum, List.map_cons, List.sum_cons, List.flatten_cons, List.length_append] at ih ⊢
    rw [ih]
    omega
theorem recFault_of (nm l : List UInt8) (hn : isName nm = true) (hl : l.length ≤ 4000) : recFault nm l.length (idsOf l) = (0, -1) := by
  refine recFault_fine hn (by omega) (by have := pieces_250 l hl; rw [idsOf_length]; omega) (firstBad_none _ _ fun j hj => ?_) ?_
  · have hj' : j < (pieces l).length := by rw [← idsOf_length]; exact hj
    have := pieces_at l j hj'
    rw [idsOf_at]
    unfold idOk idOfL
    exact decide_eq_true ⟨by show (1 : Int) ≤ ((pieces l)[j].length : Int); omega, by show ((pieces l)[j].length : Int) ≤ 64; omega⟩
  · rw [idsOf, lenSum_pieces, pieces_flatten]
theorem joinOf_pieces (nm l : List UInt8) (hn : isName nm = true) (hl : l.length ≤ 4000) : joinOf nm l.length (pmore 2166136261 l) (idsOf l) (pieces l) = (l, (0, -1)) := by
  unfold joinOf
  rw [if_neg (by rw [recFault_of nm l hn hl]; simp), if_neg (by rw [idsOf_length]; simp), firstOdd_none (pieces l) (idsOf l) 0 (fun j hj hj' => (idsOf_at l j hj').symm), pieces_flatten]
  simp
theorem joinOf_other (nm l p : List UInt8) (hn : isName nm = true) (hl : l.length ≤ 4000) (k : Nat) (hk : k < (pieces l).length) (hp : idOfL p ≠ idOfL (pieces l)[k]) : joinOf nm l.length (pmore 2166136261 l) (idsOf l) ((pieces l).set k p) = ([], (9, (k : Int))) := by
  have hf : firstOdd 0 ((pieces l).set k p) (idsOf l) = some k := by
    have := firstOdd_at ((pieces l).set k p) (idsOf l) 0 k (by rw [List.length_set]; exact hk) (by rw [idsOf_length]; exact hk) (fun j hj hj' h => ?_) ?_
    · rwa [Nat.zero_add] at this
    · rw [List.getElem_set_ne (by omega), idsOf_at]
    · rw [List.getElem_set_self, idsOf_at]
      exact hp
  unfold joinOf
  rw [if_neg (by rw [recFault_of nm l hn hl]; simp), if_neg (by rw [idsOf_length, List.length_set]; simp), hf]

theorem undec_no (c : UInt8) (hc : undec1 c = none) : ∀ (q : List UInt8) (n v : Nat), undec n q = some v → c ∉ q
  | [], _, _, _ => by simp
  | x :: q, n, v, h => by
    rw [undec] at h
    split at h
    · rename_i d hd
      have ih := undec_no c hc q _ _ h
      intro hm
      rcases List.mem_cons.1 hm with e | hm
      · rw [← e, hc] at hd
        cases hd
      · exact ih hm
    · cases h
theorem unhex_no (c : UInt8) (hc : unhex1 c = none) : ∀ (q : List UInt8) (n v : Nat), unhex n q = some v → c ∉ q
  | [], _, _, _ => by simp
  | x :: q, n, v, h => by
    rw [unhex] at h
    split at h
    · rename_i d hd
      have ih := unhex_no c hc q _ _ h
      intro hm
      rcases List.mem_cons.1 hm with e | hm
      · rw [← e, hc] at hd
        cases hd
      · exact ih hm
    · cases h
theorem blank_dec (u : Nat) : (32 : UInt8) ∉ Lib.decDigits u := undec_no 32 (by decide) _ 0 u (undec_decDigits u)
theorem pow16 : (16 : Nat) ^ 8 = 4294967296 := by decide
theorem unhex_hex (n : Nat) (h : n < 4294967296) : unhex 0 (hexLast n 8) = some n := by
  rw [unhex_hexLast 0 n 8 (by rw [pow16]; exact h), Nat.zero_mul, Nat.zero_add]
theorem blank_hex (n : Nat) (h : n < 4294967296) : (32 : UInt8) ∉ hexLast n 8 := unhex_no 32 (by decide) _ 0 n (unhex_hex n h)
theorem blank_id (n l : Nat) (h : n < 4294967296) : (32 : UInt8) ∉ idText n l := by
  intro hm
  rcases List.mem_append.1 hm with hm | hm
  · exact blank_hex n h hm
  · rcases List.mem_cons.1 hm with e | hm
    · exact absurd e (by decide)
    · exact blank_dec l hm
theorem blank_name (nm : List UInt8) (h : isName nm = true) : (32 : UInt8) ∉ nm := by
  intro hm
  unfold isName at h
  rw [Bool.and_eq_true] at h
  have := List.all_eq_true.1 h.1 32 hm
  exact absurd this (by decide)
theorem cut_ids : ∀ (ids : List (Nat × Int)) (X : List UInt8), (32 : UInt8) ∉ X → (∀ x ∈ ids, x.1 < 4294967296) → cutBy 32 (X ++ idsText ids) = X :: ids.map fun x => idText x.1 x.2.toNat
  | [], X, hX, _ => by
    rw [show idsText [] = [] from rfl, List.append_nil, cutBy_noc _ _ hX]
    rfl
  | x :: r, X, hX, h => by
    rw [show idsText (x :: r) = 32 :: (idText x.1 x.2.toNat ++ idsText r) from rfl, cutBy_split _ _ _ hX, cut_ids r _ (blank_id _ _ (h x (by simp))) (fun y hy => h y (by simp [hy]))]
    rfl
theorem read_ids : ∀ (ids : List (Nat × Int)), (∀ x ∈ ids, x.1 < 4294967296) → (∀ x ∈ ids, idOk x = true) → readIds (ids.map fun x => idText x.1 x.2.toNat) = some ids
  | [], _, _ => rfl
  | x :: r, h, ho => by
    have h0 := ho x (by simp)
    simp only [idOk, decide_eq_true_eq] at h0
    have e := idRead_idText x.1 x.2.toNat (h x (by simp)) (by omega)
    rw [List.map_cons, readIds, e, read_ids r (fun y hy => h y (by simp [hy])) (fun y hy => ho y (by simp [hy]))]
    simp only [Option.some.injEq, List.cons.injEq, and_true]
    apply Prod.ext
    · rfl
    · simp only
      omega
theorem firstBad_all : ∀ (ids : List (Nat × Int)) (i : Nat), firstBad i ids = none → ∀ x ∈ ids, idOk x = true
  | [], _, _, x, hx => by simp at hx
  | y :: r, i, h, x, hx => by
    rw [firstBad] at h
    split at h
    · rename_i hy
      rcases List.mem_cons.1 hx with e | hx
      · rw [e]; exact hy
      · exact firstBad_all r (i + 1) h x hx
    · cases h
theorem rcpRead_text (nm : List UInt8) (len : Int) (p : Nat) (ids : List (Nat × Int)) (hf : recFault nm len ids = (0, -1)) (hp : p < 4294967296) (h32 : ∀ x ∈ ids, x.1 < 4294967296) : rcpRead (rcpText nm len p ids) = ((nm, len, p, ids), (0, -1)) := by
  obtain ⟨h1, ⟨h2, h2'⟩, _, h4, _⟩ := recFault_zero hf
  have hcut : cutBy 32 (rcpText nm len p ids) = nm :: Lib.decDigits len.toNat :: hexLast p 8 :: ids.map fun x => idText x.1 x.2.toNat := by
    have e : rcpText nm len p ids = nm ++ 32 :: (Lib.decDigits len.toNat ++ 32 :: (hexLast p 8 ++ idsText ids)) := by
      simp [rcpText]
    rw [e, cutBy_split _ _ _ (blank_name nm h1), cutBy_split _ _ _ (blank_dec _), cut_ids ids _ (blank_hex p hp) h32]
  have hlen : ((len.toNat : Nat) : Int) = len := Int.toNat_of_nonneg h2
  have h6 : (10 : Nat) ^ 6 = 1000000 := by decide
  have hn : numOf (Lib.decDigits len.toNat) 6 = some len.toNat := numOf_decDigits len.toNat 6 (by decide) (by rw [h6]; omega)
  have hu : unhex8 (hexLast p 8) = some p := by rw [unhex8, if_pos (hexLast_length p 8), unhex_hex p hp]
  have hr := read_ids ids h32 (firstBad_all ids 0 h4)
  rw [rcpRead_all hcut hn hu hr, hlen, if_pos hf]

theorem lesser_mem (m y : Nat × Int) : lesser m y = m ∨ lesser m y = y := by
  unfold lesser
  split
  · exact .inr rfl
  · exact .inl rfl
theorem lesser_least (m y x : Nat × Int) (h : lessB x m = false) : lessB x (lesser m y) = false := by
  unfold lesser
  split
  · rename_i hy
    have h1 : ¬ lessB x m = true := by rw [h]; simp
    rw [lessB_iff] at h1 hy
    have h2 : ¬ lessB x y = true := by rw [lessB_iff]; omega
    simpa using h2
  · exact h
theorem lesser_self (m y : Nat × Int) : lessB y (lesser m y) = false := by
  unfold lesser
  split
  · have h2 : ¬ lessB y y = true := by rw [lessB_iff]; omega
    simpa using h2
  · rename_i h
    simpa using h
theorem fold_least : ∀ (r : List (Nat × Int)) (m x : Nat × Int), lessB x m = false → lessB x (r.foldl lesser m) = false
  | [], _, _, h => h
  | y :: r, m, x, h => fold_least r (lesser m y) x (lesser_least m y x h)
theorem fold_all : ∀ (r : List (Nat × Int)) (m x : Nat × Int), x ∈ r → lessB x (r.foldl lesser m) = false
  | y :: r, m, x, h => by
    rcases List.mem_cons.1 h with e | h
    · rw [e]
      exact fold_least r (lesser m y) y (lesser_self m y)
    · exact fold_all r (lesser m y) x h
theorem fold_mem : ∀ (r : List (Nat × Int)) (m : Nat × Int), r.foldl lesser m = m ∨ r.foldl lesser m ∈ r
  | [], _ => .inl rfl
  | y :: r, m => by
    rcases fold_mem r (lesser m y) with h | h
    · rcases lesser_mem m y with e | e
      · exact .inl (h.trans e)
      · exact .inr (by rw [List.foldl_cons, h, e]; simp)
    · exact .inr (List.mem_cons.2 (.inr h))
theorem repOf_mem (ids : List (Nat × Int)) (h : ids ≠ []) : repOf ids ∈ ids := by
  cases ids with
  | nil => exact (h rfl).elim
  | cons x r =>
    rcases fold_mem r x with e | e
    · exact List.mem_cons.2 (.inl e)
    · exact List.mem_cons.2 (.inr e)
theorem repOf_least (ids : List (Nat × Int)) (x : Nat × Int) (h : x ∈ ids) : lessB x (repOf ids) = false := by
  cases ids with
  | nil => simp at h
  | cons y r =>
    rcases List.mem_cons.1 h with e | h
    · rw [e]
      refine fold_least r y y ?_
      have h2 : ¬ lessB y y = true := by rw [lessB_iff]; omega
      simpa using h2
    · exact fold_all r y x h
end Go.Proofs.YteefjbdejcpepaaGreatDoor
namespace Go.Proofs.YteefjbdejcpepaaGreatDoor
open Go.RowKit

set_option maxRecDepth 100000 in
set_option maxHeartbeats 4000000 in
theorem sameIDs_true (va vb : Value) (ids : List (Nat × Int)) (w : World) (hn : (ids.length : Int) ≤ 9223372036854775807) (ha : IdsAt w va ids) (hb : IdsAt w vb ids) :
    Calls Tryz.prog 62 #[va, vb] w fun e w' => e = .returned (.bool true) ∧ Below w.heap.size w w' := by
  obtain ⟨pa, ca, rfl, ha⟩ := ha
  obtain ⟨pb, cb, rfl, hb⟩ := hb
  go_enter Tryz.func62, Tryz.ntmps62
  go_wp2_with fail
  go_loopw [5] (fun i wr => ∃ j m : Nat, j ≤ ids.length ∧ i = .int .i64 j ∧ wr = w.drewN m) (fun i _ => ids.length - (intOf i).toNat)
  case atStart => exact ⟨0, 0, Nat.zero_le _, rfl, rfl⟩
  case round =>
    obtain ⟨j, m, hj, rfl, rfl⟩ := hrel
    by_cases hlt : j < ids.length
    · obtain ⟨ba, oa, rfl, _, hca, hca'⟩ := ha j hlt
      obtain ⟨bb, ob, rfl, _, hcb, hcb'⟩ := hb j hlt
      have hlt' : (j : Int) < (ids.length : Int) := by omega
      obtain ⟨y, hy⟩ : ∃ y, ids[j] = y := ⟨_, rfl⟩
      rw [hy] at hca hca' hcb hcb'
      clear hy
      go_wp2_with fail
      go_quiet (fail)
      go_wp2_with fail
      go_roundw
      case rel => exact ⟨j + 1, _, by omega, by go_num, rfl⟩
      case measure => simp [intOf]; omega
    · have hge : (ids.length : Int) ≤ (j : Int) := by omega
      go_wp2_with fail
      go_ret
      exact ⟨rfl, ⟨rfl, rfl, rfl, Nat.le_refl _, fun _ _ => rfl⟩⟩

set_option maxRecDepth 100000 in
set_option maxHeartbeats 4000000 in
theorem sameRecipe_true (nm : ByteArray) (len p : Int) (va vb : Value) (ids : List (Nat × Int)) (w : World) (hn : (ids.length : Int) ≤ 9223372036854775807) (ha : IdsAt w va ids) (hb : IdsAt w vb ids) :
    Calls Tryz.prog 13 #[rcpV nm len p va, rcpV nm len p vb] w fun e w' => e = .returned (.bool true) ∧ Below w.heap.size w w' := by
  have HA : Hid (IdsAt w va ids) := ha
  have HB : Hid (IdsAt w vb ids) := hb
  have HN : Hid ((ids.length : Int) ≤ 9223372036854775807) := hn
  obtain ⟨pa, ca, rfl, _⟩ := ha
  obtain ⟨pb, cb, rfl, _⟩ := hb
  clear hn
  go_enter Tryz.func13, Tryz.ntmps13
  go_wp2_with fail
  have hbw : ∀ oo oo', Below w.heap.size w ((w.alloc oo).alloc oo') := fun oo oo' => ((Below.refl _ w).alloc (Nat.le_refl _) _).alloc (by simp) _
  refine (sameIDs_true _ _ ids _ HN.out (HA.out.below (hbw _ _)) (HB.out.below (hbw _ _))).mono ?_
  rintro e w2 ⟨rfl, hb2⟩
  go_wp2_with fail
  go_ret
  exact ⟨rfl, (hbw _ _).trans (hb2.mono (by simp; omega))⟩
end Go.Proofs.YteefjbdejcpepaaGreatDoor
namespace Go.Proofs.YteefjbdejcpepaaGreatDoor
open Go.RowKit

abbrev rcpDV (d : RcpD) (v : Value) : Value := rcpV ⟨d.1.toArray⟩ d.2.1 (d.2.2.1 : Nat) v
def ofR (nm l : List UInt8) : RcpD × Int := if isName nm = false then (([], 0, 0, []), 4) else if 4000 < l.length then (([], 0, 0, []), 2) else ((nm, (l.length : Int), pmore 2166136261 l, idsOf l), 0)
def textR (nm : List UInt8) (len : Int) (p : Nat) (ids : List (Nat × Int)) : List UInt8 := if recFault nm len ids = (0, -1) then rcpText nm len p ids else []
theorem refOf_any (nm s : ByteArray) (hnm : nm.size ≤ 50000) (hs : s.size ≤ 50000) (w : World) :
    Calls Tryz.prog 20 #[.string nm, .string s] w fun e w' => ∃ v, e = .returned (.tuple #[rcpDV (ofR nm.data.toList s.data.toList).1 v, .int .i64 (ofR nm.data.toList s.data.toList).2]) ∧ IdsIn w.heap.size w' v (ofR nm.data.toList s.data.toList).1.2.2.2 ∧ Below w.heap.size w w' := by
  have hm : nm.size ≤ maxLen := by unfold maxLen; omega
  have hsl : s.data.toList.length = s.size := by rw [Array.length_toList]; rfl
  by_cases h1 : isName nm.data.toList = true
  · by_cases h2 : 4000 < s.size
    · have e : ofR nm.data.toList s.data.toList = (([], 0, 0, []), 2) := by unfold ofR; rw [if_neg (by rw [h1]; simp), if_pos (by omega)]
      rw [e]
      exact (recipeOf_bound nm s hm h1 h2 w).mono fun e w' ⟨h, hb⟩ => ⟨.slice none 0 0, h, IdsIn.nil _ _, hb⟩
    · have e : ofR nm.data.toList s.data.toList = ((nm.data.toList, (s.size : Int), pmore 2166136261 s.data.toList, idsOf s.data.toList), 0) := by unfold ofR; rw [if_neg (by rw [h1]; simp), if_neg (by omega), hsl]
      rw [e]
      exact (recipeOf_fine nm s hm h1 (by omega) w).mono fun e w' ⟨v, h, hi, hb⟩ => ⟨v, h, hi, hb⟩
  · have h1' : isName nm.data.toList = false := by simpa using h1
    have e : ofR nm.data.toList s.data.toList = (([], 0, 0, []), 4) := by unfold ofR; rw [if_pos h1']
    rw [e]
    exact (recipeOf_name nm s hm h1' w).mono fun e w' ⟨h, hb⟩ => ⟨.slice none 0 0, h, IdsIn.nil _ _, hb⟩

structure RecSpec (a : Nat → Addr) (Env : World → Prop) : Prop where
  stable : ∀ {w w' : World}, Env w → Below w.heap.size w w' → Env w'
  err : ∀ {w : World}, Env w → ErrW w a
  name : ∀ (s : ByteArray) (w : World), s.size ≤ 50000 → Env w → Calls Tryz.prog 29 #[.string s] w fun e w' => e = .returned (.bool (isName s.data.toList)) ∧ Below w.heap.size w w'
  of' : ∀ (nm s : ByteArray) (w : World), nm.size ≤ 50000 → s.size ≤ 50000 → Env w → Calls Tryz.prog 8 #[.string nm, .string s] w fun e w' => ∃ v ev, e = .returned (.tuple #[rcpDV (ofR nm.data.toList s.data.toList).1 v, ev]) ∧ IdsIn w.heap.size w' v (ofR nm.data.toList s.data.toList).1.2.2.2 ∧ ErrIn w.heap.size w' a ev ((ofR nm.data.toList s.data.toList).2, -1) ∧ Below w.heap.size w w'
  check : ∀ (nm : ByteArray) (len : Int) (p : Nat) (v : Value) (ids : List (Nat × Int)) (w : World), nm.size ≤ 50000 → ids.length ≤ 50000 → Env w → IdsAt w v ids → Calls Tryz.prog 14 #[rcpV nm len (p : Nat) v] w fun e w' => ∃ ev, e = .returned ev ∧ ErrIn w.heap.size w' a ev (recFault nm.data.toList len ids) ∧ Below w.heap.size w w'
  rep : ∀ (nm : ByteArray) (len : Int) (p : Nat) (v : Value) (ids : List (Nat × Int)) (w : World), ids.length ≤ 50000 → Env w → IdsAt w v ids → Calls Tryz.prog 15 #[rcpV nm len (p : Nat) v] w fun e w' => e = .returned (idV ((repOf ids).1 : Nat) (repOf ids).2) ∧ Below w.heap.size w w'
  text : ∀ (nm : ByteArray) (len : Int) (p : Nat) (v : Value) (ids : List (Nat × Int)) (w : World), nm.size ≤ 50000 → ids.length ≤ 50000 → p < 4294967296 → (∀ j (hj : j < ids.length), ids[j].1 < 4294967296) → Env w → IdsAt w v ids → Calls Tryz.prog 11 #[rcpV nm len (p : Nat) v] w fun e w' => ∃ ev, e = .returned (.tuple #[.string ⟨(textR nm.data.toList len p ids).toArray⟩, ev]) ∧ ErrIn w.heap.size w' a ev (recFault nm.data.toList len ids) ∧ Below w.heap.size w w'
  read : ∀ (t : ByteArray) (w : World), t.size ≤ 40000 → (rcpRead t.data.toList).2 = (0, -1) → Env w → Calls Tryz.prog 12 #[.string t] w fun e w' => ∃ v ev, e = .returned (.tuple #[rcpDV (rcpRead t.data.toList).1 v, ev]) ∧ IdsIn w.heap.size w' v (rcpRead t.data.toList).1.2.2.2 ∧ ErrIn w.heap.size w' a ev (rcpRead t.data.toList).2 ∧ Below w.heap.size w w'
  join : ∀ (nm : ByteArray) (len : Int) (p : Nat) (v vl : Value) (ids : List (Nat × Int)) (ls : List (List UInt8)) (w : World), nm.size ≤ 50000 → ids.length ≤ 50000 → ls.length ≤ 50000 → (∀ i (h : i < ls.length), ls[i].length ≤ 100) → Env w → IdsAt w v ids → CellsAt w vl (ls.map txtV) → Calls Tryz.prog 10 #[rcpV nm len (p : Nat) v, vl] w fun e w' => ∃ ev, e = .returned (.tuple #[.string ⟨(joinOf nm.data.toList len p ids ls).1.toArray⟩, ev]) ∧ ErrIn w.heap.size w' a ev (joinOf nm.data.toList len p ids ls).2 ∧ Below w.heap.size w w'

end Go.Proofs.YteefjbdejcpepaaGreatDoor
