/-
  Own text. The least of a recipe's IDs, pure, and the document's RepOf by a contract.
-/
import Derived.Test.YthgajeobenagjaaGreatDoorRecFault
import Derived.Test.YthgajeobenagjaaGreatDoorPrint
import Derived.Deep.RegionHeld3
import Derived.RangeFuncRecord
namespace Go.Proofs.YthgajeobenagjaaGreatDoor
open Go.RowKit

def lessB (a b : Nat × Int) : Bool := if (a.1 : Int) = (b.1 : Int) then decide (a.2 < b.2) else decide ((a.1 : Int) < (b.1 : Int))
def lesser (m y : Nat × Int) : Nat × Int := if lessB y m = true then y else m
def repOf : List (Nat × Int) → Nat × Int
  | [] => (2166136261, 0)
  | x :: r => r.foldl lesser x
theorem repOf_snoc (l : List (Nat × Int)) (y : Nat × Int) (h : l ≠ []) : repOf (l ++ [y]) = lesser (repOf l) y := by
  cases l with
  | nil => exact (h rfl).elim
  | cons x r => show (r ++ [y]).foldl lesser x = _; rw [List.foldl_append]; rfl
theorem repOf_next (ids : List (Nat × Int)) (k : Nat) (h : k < ids.length) (h1 : 1 ≤ k) : repOf (ids.take (k + 1)) = lesser (repOf (ids.take k)) ids[k] := by
  rw [List.take_succ_eq_append_getElem h, repOf_snoc]
  intro e
  have := congrArg List.length e
  rw [List.length_take, List.length_nil] at this
  omega

theorem frozen_alloc_lt' (w : World) (o : Obj) {b i : Nat} (h : b < w.heap.size) : (w.alloc o).frozen? ⟨b, i, none⟩ = w.frozen? ⟨b, i, none⟩ := World.frozen?_of_block (w := w) (Below.heap_alloc w o b h)
theorem new_cell (W : World) (cs : Array Value) (t : TypeId) {i B : Nat} {v : Value} (h : cs[i]? = some v) (hB : B = W.heap.size) : (W.alloc (.cells cs t)).cell? ⟨B, i, none⟩ = some v := by
  subst hB
  have h2 := World.alloc_heap_new W (.cells cs t)
  simp only [World.cell?, h2, h]
  rfl
theorem new_frozen (W : World) (cs : Array Value) (t : TypeId) {i B : Nat} (hB : B = W.heap.size) : (W.alloc (.cells cs t)).frozen? ⟨B, i, none⟩ = false := by
  subst hB
  have h2 := World.alloc_heap_new W (.cells cs t)
  simp only [World.frozen?, h2]
  simp
/- Between two rounds: the recipe's box, the result, and the least one so far, each in a block of its own. -/
structure RepW (w W : World) (v : Value) (m : Nat × Int) : Prop where
  below : Below w.heap.size w W
  size : w.heap.size + 1 + 1 < W.heap.size
  b3 : W.cell? ⟨w.heap.size, 3, none⟩ = some v
  r0 : W.cell? ⟨w.heap.size + 1, 0, none⟩ = some (.int .u32 0)
  r1 : W.cell? ⟨w.heap.size + 1, 1, none⟩ = some (.int .i64 0)
  f0 : W.frozen? ⟨w.heap.size + 1, 0, none⟩ = false
  f1 : W.frozen? ⟨w.heap.size + 1, 1, none⟩ = false
  q0 : W.cell? ⟨w.heap.size + 1 + 1, 0, none⟩ = some (.int .u32 (m.1 : Nat))
  q1 : W.cell? ⟨w.heap.size + 1 + 1, 1, none⟩ = some (.int .i64 m.2)
  g0 : W.frozen? ⟨w.heap.size + 1 + 1, 0, none⟩ = false
  g1 : W.frozen? ⟨w.heap.size + 1 + 1, 1, none⟩ = false
theorem RepW.new (w : World) (nm : ByteArray) (len p : Int) (v : Value) (m : Nat × Int) (t t' : TypeId) : RepW w (((w.alloc (.cells #[.string nm, .int .i64 len, .int .u32 p, v] t)).alloc (.cells #[.int .u32 0, .int .i64 0] t')).alloc (.cells #[.int .u32 (m.1 : Nat), .int .i64 m.2] t')) v m where
  below := (((Below.refl _ w).alloc (Nat.le_refl _) _).alloc (by simp) _).alloc (by simp; omega) _
  size := by simp
  b3 := by rw [World.cell?_alloc_lt _ _ ⟨w.heap.size, 3, none⟩ (by simp; omega), World.cell?_alloc_lt _ _ ⟨w.heap.size, 3, none⟩ (by simp)]; simp
  r0 := by rw [World.cell?_alloc_lt _ _ ⟨w.heap.size + 1, 0, none⟩ (by simp)]; simp
  r1 := by rw [World.cell?_alloc_lt _ _ ⟨w.heap.size + 1, 1, none⟩ (by simp)]; simp
  f0 := by rw [frozen_alloc_lt' _ _ (by simp)]; simp
  f1 := by rw [frozen_alloc_lt' _ _ (by simp)]; simp
  q0 := new_cell _ _ _ rfl (by simp)
  q1 := new_cell _ _ _ rfl (by simp)
  g0 := new_frozen _ _ _ (by simp)
  g1 := new_frozen _ _ _ (by simp)
theorem RepW.next {w W W' : World} {v : Value} {m : Nat × Int} (h : RepW w W v m) (hb : Below W.heap.size W W') : RepW w W' v m := by
  have hs := h.size
  have hs' := hb.size
  exact ⟨h.below.trans (hb.mono h.below.size), by omega, (hb.cell (p := ⟨_, 3, none⟩) (by simp; omega)).trans h.b3, (hb.cell (p := ⟨_, 0, none⟩) (by simp; omega)).trans h.r0, (hb.cell (p := ⟨_, 1, none⟩) (by simp; omega)).trans h.r1, (hb.frozen (p := ⟨_, 0, none⟩) (by simp; omega)).trans h.f0, (hb.frozen (p := ⟨_, 1, none⟩) (by simp; omega)).trans h.f1,
    (hb.cell (p := ⟨_, 0, none⟩) (by simp; omega)).trans h.q0, (hb.cell (p := ⟨_, 1, none⟩) (by simp; omega)).trans h.q1, (hb.frozen (p := ⟨_, 0, none⟩) (by simp; omega)).trans h.g0, (hb.frozen (p := ⟨_, 1, none⟩) (by simp; omega)).trans h.g1⟩
theorem RepW.set {w W : World} {v : Value} {m : Nat × Int} (h : RepW w W v m) (y : Nat × Int) : RepW w ((W.setCell ⟨w.heap.size + 1 + 1, 0, none⟩ (.int .u32 (y.1 : Nat))).setCell ⟨w.heap.size + 1 + 1, 1, none⟩ (.int .i64 y.2)) v y := by
  have o : ∀ (b i : Nat), b ≠ w.heap.size + 1 + 1 → ((W.setCell ⟨w.heap.size + 1 + 1, 0, none⟩ (.int .u32 (y.1 : Nat))).setCell ⟨w.heap.size + 1 + 1, 1, none⟩ (.int .i64 y.2)).cell? ⟨b, i, none⟩ = W.cell? ⟨b, i, none⟩ := fun b i hb => by
    have hn : ∀ j, (⟨w.heap.size + 1 + 1, j, none⟩ : Addr) ≠ ⟨b, i, none⟩ := fun j e => hb (by cases e; rfl)
    rw [World.cell?_setCell_other _ _ _ _ (hn 1), World.cell?_setCell_other _ _ _ _ (hn 0)]
  refine ⟨(h.below.setCell (p := ⟨w.heap.size + 1 + 1, 0, none⟩) (by show _ ≤ w.heap.size + 1 + 1; omega) _).setCell (p := ⟨w.heap.size + 1 + 1, 1, none⟩) (by show _ ≤ w.heap.size + 1 + 1; omega) _, by simp [World.setCell]; exact h.size, (o _ _ (by omega)).trans h.b3, (o _ _ (by omega)).trans h.r0, (o _ _ (by omega)).trans h.r1, by rw [World.frozen?_setCell, World.frozen?_setCell]; exact h.f0, by rw [World.frozen?_setCell, World.frozen?_setCell]; exact h.f1, ?_, ?_, by rw [World.frozen?_setCell, World.frozen?_setCell]; exact h.g0, by rw [World.frozen?_setCell, World.frozen?_setCell]; exact h.g1⟩
  · rw [World.cell?_setCell_other _ _ _ _ (by simp), World.cell?_setCell_same' _ _ _ (by rw [h.q0]; rfl)]
  · rw [World.cell?_setCell_same' _ _ _ (by rw [World.cell?_setCell_other _ _ _ _ (by simp), h.q1]; rfl)]

set_option maxRecDepth 100000 in
set_option maxHeartbeats 4000000 in
theorem refRepOf_any (nm : ByteArray) (len p : Int) (v : Value) (ids : List (Nat × Int)) (w : World) (hv : IdsAt w v ids) (hlen : ids.length ≤ maxLen) :
    Calls Tryz.prog 23 #[rcpV nm len p v] w fun e w' => e = .returned (idV ((repOf ids).1 : Nat) (repOf ids).2) ∧ Below w.heap.size w w' := by
  obtain ⟨pa, c, rfl, hcell⟩ := hv
  have hl2 : (ids.length : Int) ≤ 9223372036854775807 := by unfold maxLen at hlen; omega
  clear hlen
  by_cases h0 : ids = []
  · subst h0
    go_enter Tryz.func23, Tryz.ntmps23
    go_wp2_with fail
    refine (idOf_any ⟨#[]⟩ _ (by unfold maxLen; decide)).mono ?_
    rintro e w1 ⟨rfl, hb1⟩
    rw [pmore_nil]
    have hs1 := hb1.size
    have k0 : w1.cell? ⟨w.heap.size + 1, 0, none⟩ = some (.int .u32 0) := (hb1.cell (p := ⟨w.heap.size + 1, 0, none⟩) (by simp)).trans (by simp)
    have k1 : w1.cell? ⟨w.heap.size + 1, 1, none⟩ = some (.int .i64 0) := (hb1.cell (p := ⟨w.heap.size + 1, 1, none⟩) (by simp)).trans (by simp)
    have f0 : w1.frozen? ⟨w.heap.size + 1, 0, none⟩ = false := (hb1.frozen (p := ⟨w.heap.size + 1, 0, none⟩) (by simp)).trans (by simp)
    have f1 : w1.frozen? ⟨w.heap.size + 1, 1, none⟩ = false := (hb1.frozen (p := ⟨w.heap.size + 1, 1, none⟩) (by simp)).trans (by simp)
    have hbw : Below w.heap.size w w1 := (((Below.refl _ w).alloc (Nat.le_refl _) _).alloc (by simp) _).trans (hb1.mono (by simp; omega))
    have hlt : w.heap.size + 1 < w1.heap.size := by simp at hs1; omega
    clear hb1 hs1
    go_wp2_with fail
    exact bodyPost_ret (v := idV (2166136261 : Nat) 0) (by simp [results, Tryz.results23, go_sem, k0, k1]) rfl ⟨rfl, (hbw.setCell (p := ⟨w.heap.size + 1, 0, none⟩) (by simp) _).setCell (p := ⟨w.heap.size + 1, 1, none⟩) (by simp) _⟩
  · have hn1 : 1 ≤ ids.length := by rcases Nat.eq_zero_or_pos ids.length with h | h; exact (h0 (List.eq_nil_of_length_eq_zero h)).elim; exact h
    have hn1' : (1 : Int) ≤ (ids.length : Int) := by omega
    have hz : ((ids.length : Int) == 0) = false := by rw [beq_eq_false_iff_ne]; omega
    clear h0
    obtain ⟨b, o, rfl, hbl, hc0, hc1⟩ := hcell 0 (by omega)
    rw [Nat.zero_mul, Nat.add_zero] at hc0 hc1
    have HCELL : Hid (∀ W', Below w.heap.size w W' → ∀ i (h : i < ids.length), W'.cell? ⟨b, o + i * 2, none⟩ = some (.int .u32 (ids[i].1 : Nat)) ∧ W'.cell? ⟨b, o + i * 2 + 1, none⟩ = some (.int .i64 ids[i].2)) := fun W' hb i hi => by
      obtain ⟨b', o', hp, hlt, h1, h2⟩ := hcell i hi
      cases hp
      exact ⟨(hb.cell (p := ⟨b, o + i * 2, none⟩) hlt).trans h1, (hb.cell (p := ⟨b, o + i * 2 + 1, none⟩) hlt).trans h2⟩
    clear hcell
    have hc0' : ∀ oo oo', ((w.alloc oo).alloc oo').cell? ⟨b, o, none⟩ = some (.int .u32 (ids[0].1 : Nat)) := fun oo oo' => by
      rw [World.cell?_alloc_lt _ _ ⟨b, o, none⟩ (by simp; omega), World.cell?_alloc_lt _ _ ⟨b, o, none⟩ hbl]; exact hc0
    have hc1' : ∀ oo oo', ((w.alloc oo).alloc oo').cell? ⟨b, o + 1, none⟩ = some (.int .i64 ids[0].2) := fun oo oo' => by
      rw [World.cell?_alloc_lt _ _ ⟨b, o + 1, none⟩ (by simp; omega), World.cell?_alloc_lt _ _ ⟨b, o + 1, none⟩ hbl]; exact hc1
    go_enter Tryz.func23, Tryz.ntmps23
    go_wp2_with fail
    have hR : RepW w (((w.alloc (.cells #[.string nm, .int .i64 len, .int .u32 p, .slice (some ⟨b, o, none⟩) ids.length c] 26)).alloc (.cells #[.int .u32 0, .int .i64 0] 40)).alloc (.cells #[.int .u32 (ids[0].1 : Nat), .int .i64 ids[0].2] 40)) (.slice (some ⟨b, o, none⟩) ids.length c) ids[0] := RepW.new w nm len p _ ids[0] _ _
    have HI0 : Hid (repOf (ids.take 1) = ids[0]) := by
      show _ = _
      cases ids with
      | nil => simp at hn1
      | cons x r => rfl
    clear hc0 hc1 hc0' hc1'
    go_loopw [4] (fun i wr => ∃ (k : Nat), 1 ≤ k ∧ k ≤ ids.length ∧ i = .int .i64 k ∧ RepW w wr (.slice (some ⟨b, o, none⟩) ids.length c) (repOf (ids.take k))) (fun i _ => ids.length - (intOf i).toNat)
    case atStart => exact ⟨1, Nat.le_refl _, hn1, rfl, by rw [HI0.out]; exact hR⟩
    case round =>
      obtain ⟨k, hk1, hk, rfl, hRW⟩ := hrel
      clear hR HI0
      have hb3 := hRW.b3
      by_cases hlt : k < ids.length
      · have hlt' : (k : Int) < (ids.length : Int) := by omega
        have hk1' : (0 : Int) ≤ (k : Int) := by omega
        obtain ⟨hd0, hd1⟩ := HCELL.out wr hRW.below k hlt
        have HNX : Hid (repOf (ids.take (k + 1)) = lesser (repOf (ids.take k)) ids[k]) := repOf_next ids k hlt hk1
        obtain ⟨m, hm⟩ : ∃ m, repOf (ids.take k) = m := ⟨_, rfl⟩
        obtain ⟨y, hy⟩ : ∃ y, ids[k] = y := ⟨_, rfl⟩
        rw [hm] at hRW HNX
        rw [hy] at HNX hd0 hd1
        have HCY : Hid (∀ W', Below w.heap.size w W' → W'.cell? ⟨b, o + k * 2, none⟩ = some (.int .u32 (y.1 : Nat)) ∧ W'.cell? ⟨b, o + k * 2 + 1, none⟩ = some (.int .i64 y.2)) := fun W' hb => by
          have := HCELL.out W' hb k hlt
          rwa [hy] at this
        clear hm hy
        have hq0 := hRW.q0
        have hq1 := hRW.q1
        obtain ⟨Lb, hL⟩ : ∃ Lb, (if (y.1 : Int) = (m.1 : Int) then decide (y.2 < m.2) else decide ((y.1 : Int) < (m.1 : Int))) = Lb := ⟨_, rfl⟩
        have HL : Hid ((if (y.1 : Int) = (m.1 : Int) then decide (y.2 < m.2) else decide ((y.1 : Int) < (m.1 : Int))) = Lb) := hL
        have HLS : Hid (lesser m y = if Lb = true then y else m) := by show _ = _; unfold lesser lessB; rw [hL]
        clear hL
        cases Lb with
        | true =>
          go_wp2_with fail
          go_region_held3 (fun w' => w'.cell? ⟨w.heap.size, 3, none⟩ = some (.slice (some ⟨b, o, none⟩) ids.length c) ∧ w'.cell? ⟨b, o + k * 2, none⟩ = some (.int .u32 (y.1 : Nat)) ∧ w'.cell? ⟨b, o + k * 2 + 1, none⟩ = some (.int .i64 y.2) ∧ w'.cell? ⟨w.heap.size + 1 + 1, 0, none⟩ = some (.int .u32 (m.1 : Nat)) ∧ w'.cell? ⟨w.heap.size + 1 + 1, 1, none⟩ = some (.int .i64 m.2)) (go_keep) (first
            | (go_at_call 48; refine (isLess_any _ _ _ _ _).mono ?_; rintro e w2 ⟨rfl, hb2⟩; rw [HL.out]; have hR2 : RepW w w2 (.slice (some ⟨b, o, none⟩) ids.length c) m := hRW.next ((Below.refl _ wr).drew.trans (hb2.mono (Nat.le_refl _))); have z0 := hR2.b3; have z1 := hR2.q0; have z2 := hR2.q1; have z3 := hR2.g0; have z4 := hR2.g1; obtain ⟨z5, z6⟩ := HCY.out w2 hR2.below))
          go_wp2_with fail
          go_roundw
          case rel => exact ⟨k + 1, by omega, by omega, by go_num, by rw [HNX.out, HLS.out]; exact hR2.set y⟩
          case measure => simp [intOf]; omega
        | false =>
          go_wp2_with fail
          go_region_held3 (fun w' => w'.cell? ⟨w.heap.size, 3, none⟩ = some (.slice (some ⟨b, o, none⟩) ids.length c) ∧ w'.cell? ⟨b, o + k * 2, none⟩ = some (.int .u32 (y.1 : Nat)) ∧ w'.cell? ⟨b, o + k * 2 + 1, none⟩ = some (.int .i64 y.2) ∧ w'.cell? ⟨w.heap.size + 1 + 1, 0, none⟩ = some (.int .u32 (m.1 : Nat)) ∧ w'.cell? ⟨w.heap.size + 1 + 1, 1, none⟩ = some (.int .i64 m.2)) (go_keep) (first
            | (go_at_call 48; refine (isLess_any _ _ _ _ _).mono ?_; rintro e w2 ⟨rfl, hb2⟩; rw [HL.out]; have hR2 : RepW w w2 (.slice (some ⟨b, o, none⟩) ids.length c) m := hRW.next ((Below.refl _ wr).drew.trans (hb2.mono (Nat.le_refl _))); have z0 := hR2.b3; have z1 := hR2.q0; have z2 := hR2.q1; have z3 := hR2.g0; have z4 := hR2.g1; obtain ⟨z5, z6⟩ := HCY.out w2 hR2.below))
          go_wp2_with fail
          go_roundw
          case rel => exact ⟨k + 1, by omega, by omega, by go_num, by rw [HNX.out, HLS.out]; exact hR2⟩
          case measure => simp [intOf]; omega
      · have hge : (ids.length : Int) ≤ (k : Int) := by omega
        rw [List.take_of_length_le (by omega)] at hRW
        obtain ⟨m, hm⟩ : ∃ m, repOf ids = m := ⟨_, rfl⟩
        have HM : Hid (repOf ids = m) := hm
        rw [hm] at hRW
        clear hm
        have hq0 := hRW.q0
        have hq1 := hRW.q1
        have k0 := hRW.r0
        have k1 := hRW.r1
        have f0 := hRW.f0
        have f1 := hRW.f1
        go_wp2_with fail
        exact bodyPost_ret (v := idV (m.1 : Nat) m.2) (by simp [results, Tryz.results23, go_sem, k0, k1]) rfl ⟨by rw [HM.out], (hRW.below.setCell (p := ⟨w.heap.size + 1, 0, none⟩) (by simp) _).setCell (p := ⟨w.heap.size + 1, 1, none⟩) (by simp) _⟩
end Go.Proofs.YthgajeobenagjaaGreatDoor
