/-
  Own text. plain.Code by contracts: nil, a sentinel, an api.Fault round a sentinel, another error of errors.New's make. Condition: the world holds the twelve sentinels and errors' own handle of the type error, as the program's text lays them ('ErrW').
-/
import Derived.Test.YtjngnnbondejaabDoorErrsIs
import Derived.Below
namespace Go.Proofs.YtjngnnbondejaabDoor
open Go.RowKit Go.Extern.Stop Go.Stop Go.Extern

/- The global of sentinel i. -/
def errG : Nat → Nat
  | 0 => 7 | 1 => 1 | 2 => 3 | 3 => 5 | 4 => 0 | 5 => 4
  | 6 => 6 | 7 => 2 | 8 => 8 | 9 => 9 | 10 => 10 | _ => 11

/- The value of sentinel i where the sentinels lie at a. -/
abbrev sentV (a : Nat → Addr) (i : Nat) : Value := .iface 179 (.pointer (some (a i)))

/- What the world holds of errors. -/
structure ErrW (w : World) (a : Nat → Addr) : Prop where
  glob : ∀ i, i < 12 → w.cell? ⟨errG i, 0, none⟩ = some (sentV a i)
  row : ∀ i, i < 12 → ∃ c t, w.heap[(a i).block]? = some (.cells c t (0, 0))
  ne : ∀ i j, i < 12 → j < 12 → a i = a j → i = j
  et : w.cell? ⟨12, 0, none⟩ = some (.iface 135 (.agg #[.pointer (some ⟨16, 28, none⟩)]))

theorem lt_of_cell {w : World} {b o : Nat} {v : Value} (h : w.cell? ⟨b, o, none⟩ = some v) : b < w.heap.size := by
  rcases Nat.lt_or_ge b w.heap.size with h' | h'
  · exact h'
  · simp [World.cell?, Array.getElem?_eq_none h'] at h
theorem lt_of_block {w : World} {b : Nat} {o : Obj} (h : w.heap[b]? = some o) : b < w.heap.size := by
  rcases Nat.lt_or_ge b w.heap.size with h' | h'
  · exact h'
  · simp [Array.getElem?_eq_none h'] at h

theorem ErrW.below {w0 w w' : World} {a : Nat → Addr} (h : ErrW w a) (hb : Below w0.heap.size w w') (hle : w.heap.size ≤ w0.heap.size) : ErrW w' a where
  glob i hi := by rw [hb.cell (p := ⟨errG i, 0, none⟩) (Nat.lt_of_lt_of_le (lt_of_cell (h.glob i hi)) hle)]; exact h.glob i hi
  row i hi := by
    obtain ⟨c, t, hc⟩ := h.row i hi
    exact ⟨c, t, by rw [hb.block _ (Nat.lt_of_lt_of_le (lt_of_block hc) hle)]; exact hc⟩
  ne := h.ne
  et := by rw [hb.cell (p := ⟨12, 0, none⟩) (Nat.lt_of_lt_of_le (lt_of_cell h.et) hle)]; exact h.et

/- The world inside Code's loop: below B it is w; the block B holds the twelve; the sentinels lie. -/
structure CodeW (w : World) (a : Nat → Addr) (B : Nat) (wr : World) : Prop where
  below : Below w.heap.size w wr
  cell : ∀ j, j < 12 → wr.cell? ⟨B, j, none⟩ = some (sentV a j)

theorem code_nil (w : World) : Calls Tryd.prog 42 #[.nilIface] w fun e w' => e = .returned (.tuple #[.int .i64 0, .int .i64 (-1)]) ∧ w' = w := by
  go_enter Tryd.func42, Tryd.ntmps42
  go_wp2
  go_ret2
  exact ⟨rfl, rfl⟩

theorem as_miss_b (v : Value) (t : Addr) (w : World) (hg : w.cell? ⟨12, 0, none⟩ = some (.iface 135 (.agg #[.pointer (some ⟨16, 28, none⟩)]))) :
    Calls Tryd.prog 61 #[.iface 179 v, .iface 105 (.pointer (some t))] w fun ev w' => ev = .returned (.bool false) ∧ Below w.heap.size w w' := by
  refine (as_miss v t w hg).mono ?_
  rintro e w' ⟨rfl, rfl⟩
  exact ⟨rfl, (((Below.refl _ _).alloc (Nat.le_refl _) _).alloc (by simp) _).alloc (by simp; omega) _⟩
theorem as_hit_b (e t : Addr) (old : Value) (w : World) (hg : w.cell? ⟨12, 0, none⟩ = some (.iface 135 (.agg #[.pointer (some ⟨16, 28, none⟩)]))) (ht0 : w.cell? t = some old) (hf0 : w.frozen? t = false) :
    Calls Tryd.prog 61 #[.iface 97 (.pointer (some e)), .iface 105 (.pointer (some t))] w fun ev w' => ev = .returned (.bool true) ∧ Below t.block w w' ∧ w'.cell? t = some (.pointer (some e)) := by
  have htl : t.block < w.heap.size := by
    rcases Nat.lt_or_ge t.block w.heap.size with h | h
    · exact h
    · simp [World.cell?, Array.getElem?_eq_none h] at ht0
  refine (as_hit e t old w hg ht0 hf0).mono ?_
  rintro ev w' ⟨rfl, rfl⟩
  refine ⟨rfl, (((((Below.refl _ _).alloc (by omega) _).alloc (by simp; omega) _).alloc (by simp; omega) _).alloc (by simp; omega) _).setCell (Nat.le_refl _) _, ?_⟩
  refine World.cell?_setCell_same _ _ _ (u := old) ?_
  rw [World.cell?_alloc_lt _ _ t (by simp; omega), World.cell?_alloc_lt _ _ t (by simp; omega), World.cell?_alloc_lt _ _ t (by simp; omega), World.cell?_alloc_lt _ _ t htl]; exact ht0

set_option maxHeartbeats 4000000 in
theorem code_sent (a : Nat → Addr) (k : Nat) (hk : k < 12) (w : World) (hE : ErrW w a) :
    Calls Tryd.prog 42 #[sentV a k] w fun e w' => e = .returned (.tuple #[.int .i64 ((k : Int) + 1), .int .i64 (-1)]) ∧ Below w.heap.size w w' := by
  have hET := hE.et
  have let' := lt_of_cell hET
  go_enter Tryd.func42, Tryd.ntmps42
  go_wp2_with fail
  refine (as_miss_b _ _ _ ?_).mono ?_
  · rw [World.cell?_alloc_lt _ _ ⟨12, 0, none⟩ let']; exact hET
  rintro e w1 ⟨rfl, hb1⟩
  have hb : Below w.heap.size w w1 := ((Below.refl _ _).alloc (Nat.le_refl _) _).trans (hb1.mono (by simp))
  have hE1 := hE.below hb (Nat.le_refl _)
  clear hb1 hET let'
  have g0 := hE1.glob 0 (by omega)
  have g1 := hE1.glob 1 (by omega)
  have g2 := hE1.glob 2 (by omega)
  have g3 := hE1.glob 3 (by omega)
  have g4 := hE1.glob 4 (by omega)
  have g5 := hE1.glob 5 (by omega)
  have g6 := hE1.glob 6 (by omega)
  have g7 := hE1.glob 7 (by omega)
  have g8 := hE1.glob 8 (by omega)
  have g9 := hE1.glob 9 (by omega)
  have g10 := hE1.glob 10 (by omega)
  have g11 := hE1.glob 11 (by omega)
  simp only [errG] at g0 g1 g2 g3 g4 g5 g6 g7 g8 g9 g10 g11
  go_wp2_with fail
  clear g0 g1 g2 g3 g4 g5 g6 g7 g8 g9 g10 g11
  go_loopw [3, 30] (fun q i wr => ∃ j : Nat, j ≤ k ∧ q = .int .i64 (-1) ∧ i = .int .i64 j ∧ CodeW w a w1.heap.size wr) (fun _ i _ => 12 - (intOf i).toNat)
  case atStart =>
    refine ⟨0, Nat.zero_le _, rfl, rfl, hb.alloc hb.size _, ?_⟩
    intro j hj
    have : j = 0 ∨ j = 1 ∨ j = 2 ∨ j = 3 ∨ j = 4 ∨ j = 5 ∨ j = 6 ∨ j = 7 ∨ j = 8 ∨ j = 9 ∨ j = 10 ∨ j = 11 := by omega
    rcases this with rfl | rfl | rfl | rfl | rfl | rfl | rfl | rfl | rfl | rfl | rfl | rfl <;> simp
  case round =>
    obtain ⟨j, hj, rfl, rfl, hC⟩ := hrel
    have hEr := hE.below hC.below (Nat.le_refl _)
    have hcj := hC.cell j (by omega)
    have hlt : (j : Int) < 12 := by omega
    by_cases hjk : j = k
    · subst hjk
      go_wp2_with fail
      refine (is_same _ _).mono ?_
      rintro e w' ⟨rfl, rfl⟩
      go_wp2_with fail
      go_ret2
      exact ⟨rfl, hC.below⟩
    · obtain ⟨ca, ta, ha⟩ := hEr.row k (by omega)
      obtain ⟨cb, tb, hbb⟩ := hEr.row j (by omega)
      have hne : a k ≠ a j := fun h => hjk ((hEr.ne k j (by omega) (by omega) h).symm)
      go_wp2_with fail
      refine (is_other _ _ ca cb ta tb _ hne ha hbb).mono ?_
      rintro e w' ⟨rfl, rfl⟩
      go_wp2_with fail
      go_roundw
      case rel => exact ⟨j + 1, by omega, rfl, by go_num, hC⟩
      case measure => simp [intOf]; omega
set_option maxHeartbeats 4000000 in
theorem code_other (a : Nat → Addr) (b : Addr) (w : World) (hE : ErrW w a) (hno : ∀ i, i < 12 → b ≠ a i) (hrow0 : ∃ c0 t0, w.heap[b.block]? = some (.cells c0 t0 (0, 0))) :
    Calls Tryd.prog 42 #[.iface 179 (.pointer (some b))] w fun e w' => e = .returned (.tuple #[.int .i64 (-1), .int .i64 (-1)]) ∧ Below w.heap.size w w' := by
  obtain ⟨c0, t0, hrow⟩ := hrow0
  have hET := hE.et
  have let' := lt_of_cell hET
  go_enter Tryd.func42, Tryd.ntmps42
  go_wp2_with fail
  refine (as_miss_b _ _ _ ?_).mono ?_
  · rw [World.cell?_alloc_lt _ _ ⟨12, 0, none⟩ let']; exact hET
  rintro e w1 ⟨rfl, hb1⟩
  have hb : Below w.heap.size w w1 := ((Below.refl _ _).alloc (Nat.le_refl _) _).trans (hb1.mono (by simp))
  have hE1 := hE.below hb (Nat.le_refl _)
  clear hb1 hET let'
  have g0 := hE1.glob 0 (by omega)
  have g1 := hE1.glob 1 (by omega)
  have g2 := hE1.glob 2 (by omega)
  have g3 := hE1.glob 3 (by omega)
  have g4 := hE1.glob 4 (by omega)
  have g5 := hE1.glob 5 (by omega)
  have g6 := hE1.glob 6 (by omega)
  have g7 := hE1.glob 7 (by omega)
  have g8 := hE1.glob 8 (by omega)
  have g9 := hE1.glob 9 (by omega)
  have g10 := hE1.glob 10 (by omega)
  have g11 := hE1.glob 11 (by omega)
  simp only [errG] at g0 g1 g2 g3 g4 g5 g6 g7 g8 g9 g10 g11
  go_wp2_with fail
  clear g0 g1 g2 g3 g4 g5 g6 g7 g8 g9 g10 g11
  go_loopw [3, 30] (fun q i wr => ∃ j : Nat, j ≤ 12 ∧ q = .int .i64 (-1) ∧ i = .int .i64 j ∧ CodeW w a w1.heap.size wr) (fun _ i _ => 12 - (intOf i).toNat)
  case atStart =>
    refine ⟨0, Nat.zero_le _, rfl, rfl, hb.alloc hb.size _, ?_⟩
    intro j hj
    have : j = 0 ∨ j = 1 ∨ j = 2 ∨ j = 3 ∨ j = 4 ∨ j = 5 ∨ j = 6 ∨ j = 7 ∨ j = 8 ∨ j = 9 ∨ j = 10 ∨ j = 11 := by omega
    rcases this with rfl | rfl | rfl | rfl | rfl | rfl | rfl | rfl | rfl | rfl | rfl | rfl <;> simp
  case round =>
    obtain ⟨j, hj, rfl, rfl, hC⟩ := hrel
    have hEr := hE.below hC.below (Nat.le_refl _)
    have hrr : wr.heap[b.block]? = some (.cells c0 t0 (0, 0)) := by rw [hC.below.block _ (lt_of_block hrow)]; exact hrow
    by_cases hlt : (j : Int) < 12
    · have hcj := hC.cell j (by omega)
      obtain ⟨cb, tb, hbb⟩ := hEr.row j (by omega)
      have hne : b ≠ a j := hno j (by omega)
      go_wp2_with fail
      refine (is_other _ _ c0 cb t0 tb _ hne hrr hbb).mono ?_
      rintro e w' ⟨rfl, rfl⟩
      go_wp2_with fail
      go_roundw
      case rel => exact ⟨j + 1, by omega, rfl, by go_num, hC⟩
      case measure => simp [intOf]; omega
    · go_wp2_with fail
      go_ret2
      exact ⟨rfl, hC.below⟩

set_option maxHeartbeats 4000000 in
theorem code_fault (a : Nat → Addr) (k : Nat) (hk : k < 12) (pb po : Nat) (at0 : Int) (w : World) (hE : ErrW w a) (h0 : w.cell? ⟨pb, po, none⟩ = some (.int .i64 at0)) (h1 : w.cell? ⟨pb, po + 1, none⟩ = some (sentV a k)) :
    Calls Tryd.prog 42 #[.iface 97 (.pointer (some ⟨pb, po, none⟩))] w fun e w' => e = .returned (.tuple #[.int .i64 ((k : Int) + 1), .int .i64 at0]) ∧ Below w.heap.size w w' := by
  have hET := hE.et
  have let' := lt_of_cell hET
  go_enter Tryd.func42, Tryd.ntmps42
  go_wp2_with fail
  refine (as_hit_b _ _ (.pointer none) _ ?_ (by simp) (by simp)).mono ?_
  · rw [World.cell?_alloc_lt _ _ ⟨12, 0, none⟩ let']; exact hET
  rintro e w1 ⟨rfl, hb1, hf1⟩
  have hb : Below w.heap.size w w1 := ((Below.refl _ _).alloc (Nat.le_refl _) _).trans (hb1.mono (by simp))
  have h01 : w1.cell? ⟨pb, po, none⟩ = some (.int .i64 at0) := by rw [hb.cell (p := ⟨pb, po, none⟩) (lt_of_cell h0)]; exact h0
  have hE1 := hE.below hb (Nat.le_refl _)
  clear hb1 hET let' h0
  have g0 := hE1.glob 0 (by omega)
  have g1 := hE1.glob 1 (by omega)
  have g2 := hE1.glob 2 (by omega)
  have g3 := hE1.glob 3 (by omega)
  have g4 := hE1.glob 4 (by omega)
  have g5 := hE1.glob 5 (by omega)
  have g6 := hE1.glob 6 (by omega)
  have g7 := hE1.glob 7 (by omega)
  have g8 := hE1.glob 8 (by omega)
  have g9 := hE1.glob 9 (by omega)
  have g10 := hE1.glob 10 (by omega)
  have g11 := hE1.glob 11 (by omega)
  simp only [errG] at g0 g1 g2 g3 g4 g5 g6 g7 g8 g9 g10 g11
  go_wp2_with fail
  clear h01 hf1 g0 g1 g2 g3 g4 g5 g6 g7 g8 g9 g10 g11
  go_loopw [3, 30] (fun q i wr => ∃ j : Nat, j ≤ k ∧ q = .int .i64 at0 ∧ i = .int .i64 j ∧ CodeW w a w1.heap.size wr) (fun _ i _ => 12 - (intOf i).toNat)
  case atStart =>
    refine ⟨0, Nat.zero_le _, rfl, rfl, hb.alloc hb.size _, ?_⟩
    intro j hj
    have : j = 0 ∨ j = 1 ∨ j = 2 ∨ j = 3 ∨ j = 4 ∨ j = 5 ∨ j = 6 ∨ j = 7 ∨ j = 8 ∨ j = 9 ∨ j = 10 ∨ j = 11 := by omega
    rcases this with rfl | rfl | rfl | rfl | rfl | rfl | rfl | rfl | rfl | rfl | rfl | rfl <;> simp
  case round =>
    obtain ⟨j, hj, rfl, rfl, hC⟩ := hrel
    have hEr := hE.below hC.below (Nat.le_refl _)
    have h1r : wr.cell? ⟨pb, po + 1, none⟩ = some (sentV a k) := by rw [hC.below.cell (p := ⟨pb, po + 1, none⟩) (lt_of_cell h1)]; exact h1
    have hcj := hC.cell j (by omega)
    have hlt : (j : Int) < 12 := by omega
    by_cases hjk : j = k
    · subst hjk
      go_wp2_with fail
      refine (is_fault_same _ _ _ _ h1r).mono ?_
      rintro e w' ⟨rfl, rfl⟩
      go_wp2_with fail
      go_ret2
      exact ⟨rfl, hC.below⟩
    · obtain ⟨ca, ta, ha⟩ := hEr.row k (by omega)
      obtain ⟨cb, tb, hbb⟩ := hEr.row j (by omega)
      have hne : a k ≠ a j := fun h => hjk ((hEr.ne k j (by omega) (by omega) h).symm)
      go_wp2_with fail
      refine (is_fault_other _ _ _ _ ca cb ta tb _ h1r hne ha hbb).mono ?_
      rintro e w' ⟨rfl, rfl⟩
      go_wp2_with fail
      go_roundw
      case rel => exact ⟨j + 1, by omega, rfl, by go_num, hC⟩
      case measure => simp [intOf]; omega
end Go.Proofs.YtjngnnbondejaabDoor
