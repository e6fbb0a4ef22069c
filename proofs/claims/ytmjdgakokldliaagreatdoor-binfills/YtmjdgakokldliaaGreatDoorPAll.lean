/-
  Own text. The program's bin by contracts: All, its closure.
-/
import Derived.Test.YtmjdgakokldliaaGreatDoorPSize
import Derived.Test.YtmjdgakokldliaaGreatDoorSrtAll
import Derived.Test.YtmjdgakokldliaaGreatDoorShelf
import Derived.Test.YtmjdgakokldliaaGreatDoorBinRef
import Derived.Shelf.GgSortFunc.Tiny
import Derived.Deep.RegionHeld3
namespace Go.Proofs.YtmjdgakokldliaaGreatDoor
open Go.RowKit Go.Maps

theorem less_is (x y : Nat × Int) : (if ((x.1 : Nat) : Int) = ((y.1 : Nat) : Int) then decide (x.2 < y.2) else decide (((x.1 : Nat) : Int) < ((y.1 : Nat) : Int))) = lessB x y := by
  rw [Bool.eq_iff_iff, lessB_iff]
  split <;> simp <;> omega

set_option maxRecDepth 100000 in
set_option maxHeartbeats 4000000 in
theorem all1_any (Bs blk off n c i j : Nat) (x y : Nat × Int) (W : World) (hs : W.cell? ⟨Bs, 0, none⟩ = some (.slice (some ⟨blk, off, none⟩) n c)) (hi : i < n) (hj : j < n)
    (i0 : W.cell? ⟨blk, off + i * 4, none⟩ = some (.int .u32 (x.1 : Nat))) (i1 : W.cell? ⟨blk, off + i * 4 + 1, none⟩ = some (.int .i64 x.2)) (j0 : W.cell? ⟨blk, off + j * 4, none⟩ = some (.int .u32 (y.1 : Nat))) (j1 : W.cell? ⟨blk, off + j * 4 + 1, none⟩ = some (.int .i64 y.2)) :
    Calls Tryz.prog 88 #[.int .i64 i, .int .i64 j, .pointer (some ⟨Bs, 0, none⟩)] W fun e w' => e = .returned (.bool (lessB x y)) ∧ Below W.heap.size W w' := by
  have hi' : (i : Int) < (n : Int) := by omega
  have hj' : (j : Int) < (n : Int) := by omega
  have HL := less_is x y
  have HLb : Hid _ := HL
  obtain ⟨r, hr⟩ : ∃ r, lessB x y = r := ⟨_, rfl⟩
  rw [hr] at HLb ⊢
  clear HL hr
  obtain ⟨xp, xl⟩ := x
  obtain ⟨yp, yl⟩ := y
  simp only at i0 i1 j0 j1 HLb
  have HC : Hid (∀ w', Below W.heap.size W w' → w'.cell? ⟨Bs, 0, none⟩ = some (.slice (some ⟨blk, off, none⟩) n c) ∧ w'.cell? ⟨blk, off + i * 4, none⟩ = some (.int .u32 (xp : Nat)) ∧ w'.cell? ⟨blk, off + i * 4 + 1, none⟩ = some (.int .i64 xl) ∧ w'.cell? ⟨blk, off + j * 4, none⟩ = some (.int .u32 (yp : Nat)) ∧ w'.cell? ⟨blk, off + j * 4 + 1, none⟩ = some (.int .i64 yl)) := fun w' hb => ⟨(hb.cell (p := ⟨Bs, 0, none⟩) (lt_of_cell hs)).trans hs, (hb.cell (p := ⟨blk, off + i * 4, none⟩) (lt_of_cell i0)).trans i0, (hb.cell (p := ⟨blk, off + i * 4 + 1, none⟩) (lt_of_cell i0)).trans i1, (hb.cell (p := ⟨blk, off + j * 4, none⟩) (lt_of_cell i0)).trans j0, (hb.cell (p := ⟨blk, off + j * 4 + 1, none⟩) (lt_of_cell i0)).trans j1⟩
  go_enter Tryz.func88, Tryz.ntmps88
  go_wp2_with fail
  go_region_held3 (fun w' => w'.cell? ⟨Bs, 0, none⟩ = some (.slice (some ⟨blk, off, none⟩) n c) ∧ w'.cell? ⟨blk, off + i * 4, none⟩ = some (.int .u32 (xp : Nat)) ∧ w'.cell? ⟨blk, off + i * 4 + 1, none⟩ = some (.int .i64 xl) ∧ w'.cell? ⟨blk, off + j * 4, none⟩ = some (.int .u32 (yp : Nat)) ∧ w'.cell? ⟨blk, off + j * 4 + 1, none⟩ = some (.int .i64 yl)) (go_keep) (first
    | (go_at_call 16; refine (less_any _ _ _ _ _).mono ?_; rintro e w2 ⟨rfl, hb2⟩; rw [HLb.out]; have hB2 : Below W.heap.size W w2 := (Below.refl _ W).drew.trans hb2; have HB2 : Hid (Below W.heap.size W w2) := hB2; obtain ⟨z0, z1, z2, z3, z4⟩ := HC.out w2 hB2; clear hb2 hB2))
  go_wp2_with fail
  go_ret
  exact ⟨rfl, HB2.out⟩
end Go.Proofs.YtmjdgakokldliaaGreatDoor
