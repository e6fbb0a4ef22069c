/-
  Own text. The walk of Names: it returns true, and no old memory turns, in every world that holds the sentinels and errors' handle as the program's text lays them.
-/
import Derived.Test.YthgajeobenagjaaDoorCoded
namespace Go.Proofs.YthgajeobenagjaaDoor
open Go.RowKit Go.Extern.Stop Go.Stop Go.Extern

theorem below_drewN {B : Nat} {a w : World} (h : Below B a w) (m : Nat) : Below B a (w.drewN m) := ⟨h.os, h.tape, h.output, h.size, h.block⟩

set_option maxHeartbeats 4000000 in
theorem names_walk (a : Nat → Addr) (w : World) (hE : ErrW w a) :
    Calls Tryd.prog 3 #[] w fun e w' => e = .returned (.bool true) ∧ Below w.heap.size w w' := by
  go_enter Tryd.func3, Tryd.ntmps3
  go_wp2_with fail
  refine (sameInts_true _ _ [8, 16, 64, 4000, 12, 30, 250, 6, 20, 40000, 1048576, 80, 16] _ (by decide) ?_ ?_).mono ?_
  · refine ⟨_, _, rfl, fun i h => ⟨w.heap.size, 0, rfl, ?_⟩⟩
    rw [World.cell?_alloc_lt _ _ _ (by simp)]
    have : i = 0 ∨ i = 1 ∨ i = 2 ∨ i = 3 ∨ i = 4 ∨ i = 5 ∨ i = 6 ∨ i = 7 ∨ i = 8 ∨ i = 9 ∨ i = 10 ∨ i = 11 ∨ i = 12 := by simp at h; omega
    rcases this with rfl | rfl | rfl | rfl | rfl | rfl | rfl | rfl | rfl | rfl | rfl | rfl | rfl <;> simp
  · refine ⟨_, _, rfl, fun i h => ⟨w.heap.size + 1, 0, rfl, ?_⟩⟩
    have : i = 0 ∨ i = 1 ∨ i = 2 ∨ i = 3 ∨ i = 4 ∨ i = 5 ∨ i = 6 ∨ i = 7 ∨ i = 8 ∨ i = 9 ∨ i = 10 ∨ i = 11 ∨ i = 12 := by simp at h; omega
    rcases this with rfl | rfl | rfl | rfl | rfl | rfl | rfl | rfl | rfl | rfl | rfl | rfl | rfl <;> simp
  rintro e w1 ⟨rfl, m, hw1⟩
  have hb : Below w.heap.size w w1 := by rw [hw1]; exact below_drewN (((Below.refl _ _).alloc (Nat.le_refl _) _).alloc (by simp) _) m
  have hE1 := hE.below hb (Nat.le_refl _)
  clear hw1
  have g0 := hE1.glob 0 (by omega)
  have g1 := hE1.glob 1 (by omega)
  have g2 := hE1.glob 2 (by omega)
  have g3 := hE1.glob 3 (by omega)
  have g4 := hE1.glob 4 (by omega)
  have g5 := hE1.glob 5 (by omega)
  have g6 := hE1.glob 6 (by omega)
  have g7 := hE1.glob 7 (by omega)
  have g8 := hE1.glob 8 (by omega)
  have g9 := hE1.glob 9 (by omega)
  have g10 := hE1.glob 10 (by omega)
  have g11 := hE1.glob 11 (by omega)
  simp only [errG] at g0 g1 g2 g3 g4 g5 g6 g7 g8 g9 g10 g11
  go_wp2_with fail
  clear g0 g1 g2 g3 g4 g5 g6 g7 g8 g9 g10 g11
  go_loopw [4] (fun i wr => ∃ j : Nat, j ≤ 12 ∧ i = .int .i64 j ∧ CodeW w a w1.heap.size wr ∧ w1.heap.size < wr.heap.size) (fun i _ => 12 - (intOf i).toNat)
  case atStart =>
    refine ⟨0, Nat.zero_le _, rfl, ⟨hb.alloc hb.size _, ?_⟩, by simp⟩
    intro j hj
    have : j = 0 ∨ j = 1 ∨ j = 2 ∨ j = 3 ∨ j = 4 ∨ j = 5 ∨ j = 6 ∨ j = 7 ∨ j = 8 ∨ j = 9 ∨ j = 10 ∨ j = 11 := by omega
    rcases this with rfl | rfl | rfl | rfl | rfl | rfl | rfl | rfl | rfl | rfl | rfl | rfl <;> simp
  case round =>
    obtain ⟨j, hj, rfl, hC, hsz⟩ := hrel
    have hEr := hE.below hC.below (Nat.le_refl _)
    by_cases hlt : j < 12
    · have hcj := hC.cell j hlt
      have hlt' : (j : Int) < 12 := by omega
      go_wp2_with fail
      refine (code_fault a j hlt wr.heap.size 0 7 _ ?_ ?_ ?_).mono ?_
      · exact hEr.below ((Below.refl _ _).alloc (Nat.le_refl _) _) (Nat.le_refl _)
      · simp
      · simp
      rintro e w2 ⟨rfl, hb2⟩
      have hb2' : Below wr.heap.size wr w2 := ((Below.refl _ _).alloc (Nat.le_refl _) _).trans (hb2.mono (by simp))
      have hE2 := hEr.below hb2' (Nat.le_refl _)
      have hcj2 : w2.cell? ⟨w1.heap.size, j, none⟩ = some (sentV a j) := by rw [hb2'.cell (p := ⟨w1.heap.size, j, none⟩) hsz]; exact hcj
      have hjj : ((j : Int) + 1 == (j : Int) + 1) = true := by simp
      have hjn : ((j : Int) + 1 != (j : Int) + 1) = false := by simp
      go_wp2_with fail
      refine (coded_sent a j hlt _ rfl _ hE2).mono ?_
      rintro e w3 ⟨rfl, hb3⟩
      have hb3' : Below wr.heap.size wr w3 := hb2'.trans (hb3.mono hb2'.size)
      go_wp2_with fail
      go_roundw
      case rel => exact ⟨j + 1, by omega, by go_num, ⟨hC.below.trans (hb3'.mono hC.below.size), fun i hi => by rw [hb3'.cell (p := ⟨w1.heap.size, i, none⟩) hsz]; exact hC.cell i hi⟩, Nat.lt_of_lt_of_le hsz hb3'.size⟩
      case measure => simp [intOf]; omega
    · have hge : (12 : Int) ≤ (j : Int) := by omega
      go_wp2_with fail
      refine (new_any _ _).mono ?_
      rintro e w2 ⟨rfl, rfl⟩
      go_wp2_with fail
      refine (code_other a ⟨wr.heap.size, 0, none⟩ _ ?_ ?_ ?_).mono ?_
      case refine_1 => exact hEr.below ((Below.refl _ _).alloc (Nat.le_refl _) _) (Nat.le_refl _)
      case refine_2 =>
        intro i hi h
        obtain ⟨c, t, hc⟩ := hEr.row i hi
        rw [← h] at hc
        have := lt_of_block hc
        simp at this
      case refine_3 => exact ⟨_, _, Array.getElem?_push_size⟩
      rintro e w3 ⟨rfl, hb3⟩
      go_wp2_with fail
      refine (coded_nil _ rfl _).mono ?_
      rintro e w4 ⟨rfl, rfl⟩
      go_wp2_with fail
      go_ret
      exact ⟨rfl, hC.below.trans ((((Below.refl _ _).alloc (Nat.le_refl _) _).trans (hb3.mono (by simp))).mono hC.below.size)⟩
end Go.Proofs.YthgajeobenagjaaDoor
