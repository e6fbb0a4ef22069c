/-
  Own text. The document's SameIDs and SameRecipe of two that hold the same, by contracts: true; no old memory turns.
-/
import Derived.Test.YthgajeobenagjaaGreatDoorRecFault
import Derived.Test.YthgajeobenagjaaGreatDoorPrint
import Derived.Deep.QuietTactic
import Derived.BigQuiet
namespace Go.Proofs.YthgajeobenagjaaGreatDoor
open Go.RowKit

set_option maxRecDepth 100000 in
set_option maxHeartbeats 4000000 in
theorem sameIDs_true (va vb : Value) (ids : List (Nat × Int)) (w : World) (hn : (ids.length : Int) ≤ 9223372036854775807) (ha : IdsAt w va ids) (hb : IdsAt w vb ids) :
    Calls Tryz.prog 37 #[va, vb] w fun e w' => e = .returned (.bool true) ∧ Below w.heap.size w w' := by
  obtain ⟨pa, ca, rfl, ha⟩ := ha
  obtain ⟨pb, cb, rfl, hb⟩ := hb
  go_enter Tryz.func37, Tryz.ntmps37
  go_wp2_with fail
  go_loopw [5] (fun i wr => ∃ j m : Nat, j ≤ ids.length ∧ i = .int .i64 j ∧ wr = w.drewN m) (fun i _ => ids.length - (intOf i).toNat)
  case atStart => exact ⟨0, 0, Nat.zero_le _, rfl, rfl⟩
  case round =>
    obtain ⟨j, m, hj, rfl, rfl⟩ := hrel
    by_cases hlt : j < ids.length
    · obtain ⟨ba, oa, rfl, _, hca, hca'⟩ := ha j hlt
      obtain ⟨bb, ob, rfl, _, hcb, hcb'⟩ := hb j hlt
      have hlt' : (j : Int) < (ids.length : Int) := by omega
      obtain ⟨y, hy⟩ : ∃ y, ids[j] = y := ⟨_, rfl⟩
      rw [hy] at hca hca' hcb hcb'
      clear hy
      go_wp2_with fail
      go_quiet (fail)
      go_wp2_with fail
      go_roundw
      case rel => exact ⟨j + 1, _, by omega, by go_num, rfl⟩
      case measure => simp [intOf]; omega
    · have hge : (ids.length : Int) ≤ (j : Int) := by omega
      go_wp2_with fail
      go_ret
      exact ⟨rfl, ⟨rfl, rfl, rfl, Nat.le_refl _, fun _ _ => rfl⟩⟩

set_option maxRecDepth 100000 in
set_option maxHeartbeats 4000000 in
theorem sameRecipe_true (nm : ByteArray) (len p : Int) (va vb : Value) (ids : List (Nat × Int)) (w : World) (hn : (ids.length : Int) ≤ 9223372036854775807) (ha : IdsAt w va ids) (hb : IdsAt w vb ids) :
    Calls Tryz.prog 11 #[rcpV nm len p va, rcpV nm len p vb] w fun e w' => e = .returned (.bool true) ∧ Below w.heap.size w w' := by
  have HA : Hid (IdsAt w va ids) := ha
  have HB : Hid (IdsAt w vb ids) := hb
  have HN : Hid ((ids.length : Int) ≤ 9223372036854775807) := hn
  obtain ⟨pa, ca, rfl, _⟩ := ha
  obtain ⟨pb, cb, rfl, _⟩ := hb
  clear hn
  go_enter Tryz.func11, Tryz.ntmps11
  go_wp2_with fail
  have hbw : ∀ oo oo', Below w.heap.size w ((w.alloc oo).alloc oo') := fun oo oo' => ((Below.refl _ w).alloc (Nat.le_refl _) _).alloc (by simp) _
  refine (sameIDs_true _ _ ids _ HN.out (HA.out.below (hbw _ _)) (HB.out.below (hbw _ _))).mono ?_
  rintro e w2 ⟨rfl, hb2⟩
  go_wp2_with fail
  go_ret
  exact ⟨rfl, (hbw _ _).trans (hb2.mono (by simp; omega))⟩
end Go.Proofs.YthgajeobenagjaaGreatDoor
